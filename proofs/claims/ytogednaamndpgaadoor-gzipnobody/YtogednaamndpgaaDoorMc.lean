/-
  Own texts of this seat, one behind the other: what each says stands ahead of it.
-/
import Derived.Test.YtogednaamndpgaaDoorProg
import Derived.Test.YtogednaamndpgaaDoorMa
import Derived.Test.YtogednaamndpgaaDoorMb
import Derived.BigQuiet
import Derived.Deep.LoopGhost
import Derived.Laws.MakeOwn
import Derived.Laws.OwnMore
import Derived.Laws.IdiomStrings
import Derived.WideKeyArgs2
import Derived.DeepKeys4
import Derived.Maps.OwnSet
import Derived.KernelRfl
/-
  What New, Len, Size, Clear, move, cell, Put and Back of the ring come to: at a window that is nil, and at one in memory.
  Conditions: none at a nil window; a window in memory has a size from 1 to 32768, its next cell and its count fit the size, and each method keeps that.
-/
namespace Go.Proofs.YtogednaamndpgaaDoor
open Go.RowKit

theorem glen_nil (w : World) : Calls Tryd.prog 82 #[.pointer none] w fun e w' => e = .returned (.int .i64 0) ∧ w = w' := by
  go_enter Tryd.func82, Tryd.ntmps82
  go_wp2
  go_ret
  exact ⟨rfl, rfl⟩
theorem gsize_nil (w : World) : Calls Tryd.prog 74 #[.pointer none] w fun e w' => e = .returned (.int .i64 0) ∧ w = w' := by
  go_enter Tryd.func74, Tryd.ntmps74
  go_wp2
  go_ret
  exact ⟨rfl, rfl⟩
theorem gclear_nil (w : World) : Calls Tryd.prog 85 #[.pointer none] w fun e w' => e = .returned (.tuple #[]) ∧ w = w' := by
  go_enter Tryd.func85, Tryd.ntmps85
  go_wp2
  first | go_end0 | (refine bodyPost_ret (results_none rfl _ _ _) rfl ?_)
  exact ⟨rfl, rfl⟩
theorem gput_nil (x : Int) (w : World) : Calls Tryd.prog 61 #[.pointer none, .int .u8 x] w fun e w' => e = .returned (.tuple #[]) ∧ w = w' := by
  go_enter Tryd.func61, Tryd.ntmps61
  go_wp2_with fail
  refine (gsize_nil _).mono ?_
  rintro e w' ⟨rfl, rfl⟩
  go_wp2_with fail
  first | go_end0 | (refine bodyPost_ret (results_none rfl _ _ _) rfl ?_)
  exact ⟨rfl, rfl⟩
theorem gback_nil (d : Int) (w : World) : Calls Tryd.prog 87 #[.pointer none, .int .i64 d] w fun e w' => e = .returned (.tuple #[.int .u8 0, .bool false]) ∧ w = w' := by
  go_enter Tryd.func87, Tryd.ntmps87
  by_cases h : d < 1
  · go_wp2_with fail
    go_ret2
    exact ⟨rfl, rfl⟩
  · have h0 : (0 : Int) < d := by omega
    go_wp2_with fail
    refine (glen_nil _).mono ?_
    rintro e w' ⟨rfl, rfl⟩
    go_wp2_with fail
    go_ret2
    exact ⟨rfl, rfl⟩
theorem gnew_no (s : Int) (w : World) (h : s < 1 ∨ 32768 < s) : Calls Tryd.prog 31 #[.int .i64 s] w fun e w' => e = .returned (.tuple #[.pointer none, .int .i64 2]) ∧ w = w' := by
  go_enter Tryd.func31, Tryd.ntmps31
  by_cases h1 : s < 1
  · go_wp2
    go_ret2
    exact ⟨rfl, rfl⟩
  · have h2 : 32768 < s := by omega
    go_wp2
    go_ret2
    exact ⟨rfl, rfl⟩

/-- Numbers as bytes in memory. -/
def gvb (l : List Int) : List Value := l.map (Value.int .u8)
theorem gvb_length (l : List Int) : (gvb l).length = l.length := by simp [gvb]
theorem gvb_get (l : List Int) (i : Nat) : (gvb l)[i]? = l[i]?.map (Value.int .u8) := by simp [gvb]
theorem gvb_one {l : List Int} : ∀ v ∈ gvb l, v.oneCell' = true := by
  intro v hv
  simp only [gvb, List.mem_map] at hv
  obtain ⟨x, _, rfl⟩ := hv
  rfl
theorem ginfo5 : (Tryd.prog.info? 5).map (fun i => (i.zero, i.size, i.bytes)) = some (some (.int .u8 0), 1, 1) := by kernel_rfl
theorem ginfo_parts {P : Program} {t : TypeId} {z : Value} {n m : Nat} (h : (P.info? t).map (fun i => (i.zero, i.size, i.bytes)) = some (some z, n, m)) :
    ∃ i, P.info? t = some i ∧ i.zero = some z ∧ i.size = n ∧ i.bytes = m := by
  cases hq : P.info? t with
  | none => simp [hq] at h
  | some i => simp [hq] at h; exact ⟨i, rfl, h.1, h.2.1, h.2.2⟩
theorem gsize5 : (Tryd.prog.info? 5).map (·.size) = some 1 := by kernel_rfl
/-- make of a list of n bytes. -/
theorem gmade (n : Nat) (hn : n ≤ 1048576) (w : World) : (Instr.makeSlice 33 (.int .i64 (n : Int)) (.int .i64 (n : Int))).run Tryd.prog w = .ok (.slice (some ⟨w.heap.size, 0, none⟩) n n) (w.alloc (.cells (gvb (List.replicate n 0)).toArray 5)) := by
  obtain ⟨i, hi, hz, hs, hb⟩ := ginfo_parts ginfo5
  have := run_make (P := Tryd.prog) w 33 5 i _ Tryd.underlying33 hi hz .i64 .i64 n n (by omega) (by omega) (by rw [hb]; omega) (by omega)
  rw [this, hs]
  have e : madeCells (Value.int .u8 0).cells ((n : Int).toNat * 1) = (gvb (List.replicate n 0)).toArray := by
    apply Array.toList_inj.1
    show (madeCells #[Value.int .u8 0] _).toList = _
    rw [toList_madeCells_one]
    simp [gvb]
  rw [e]
  simp

/-- GTwo blocks alone may have turned; none has come. -/
structure GTwo (a b : Nat) (w w' : World) : Prop where
  os : w'.os = w.os
  tape : w'.tape = w.tape
  output : w'.output = w.output
  size : w'.heap.size = w.heap.size
  block : ∀ k, k ≠ a → k ≠ b → w'.heap[k]? = w.heap[k]?
section
variable {a b : Nat} {w u v : World}
theorem GTwo.refl (a b : Nat) (w : World) : GTwo a b w w := ⟨rfl, rfl, rfl, rfl, fun _ _ _ => rfl⟩
theorem GTwo.trans (h : GTwo a b w u) (k : GTwo a b u v) : GTwo a b w v :=
  ⟨k.os.trans h.os, k.tape.trans h.tape, k.output.trans h.output, k.size.trans h.size, fun i h1 h2 => (k.block i h1 h2).trans (h.block i h1 h2)⟩
theorem GTwo.fst (h : Only a w u) : GTwo a b w u := ⟨h.os, h.tape, h.output, h.size, fun i h1 _ => h.block i h1⟩
theorem GTwo.snd (h : Only b w u) : GTwo a b w u := ⟨h.os, h.tape, h.output, h.size, fun i _ h2 => h.block i h2⟩
theorem GTwo.below {B : Nat} (h : GTwo a b w u) (ha : B ≤ a) (hb : B ≤ b) : Below B w u :=
  ⟨h.os, h.tape, h.output, Nat.le_of_eq h.size.symm, fun k hk => h.block k (by omega) (by omega)⟩
theorem GTwo.drewN (h : GTwo a b w u) (n : Nat) : GTwo a b w (u.drewN n) := ⟨h.os, h.tape, h.output, h.size, h.block⟩
theorem GTwo.drew (h : GTwo a b w u) : GTwo a b w u.drew := ⟨h.os, h.tape, h.output, h.size, h.block⟩
end

/-- A window in memory: block H holds it, block K its N cells; x is the next cell, h the count. -/
structure GLo (w : World) (H K N x h : Nat) (cs : List Int) : Prop where
  hd : Cells w H #[.slice (some ⟨K, 0, none⟩) N N, .int .i64 (x : Int), .int .i64 (h : Int)] 65
  row : Cells w K (gvb cs).toArray 5
  len : cs.length = N
  n1 : 1 ≤ N
  n2 : N ≤ 32768
  xlt : x < N
  hle : h ≤ N
  ne : H ≠ K
section
variable {w u : World} {H K N x h : Nat} {cs : List Int}
theorem GLo.drewN (l : GLo w H K N x h cs) (n : Nat) : GLo (w.drewN n) H K N x h cs := ⟨l.hd, l.row, l.len, l.n1, l.n2, l.xlt, l.hle, l.ne⟩
theorem GLo.drew (l : GLo w H K N x h cs) : GLo w.drew H K N x h cs := ⟨l.hd, l.row, l.len, l.n1, l.n2, l.xlt, l.hle, l.ne⟩
theorem GLo.only {c : Nat} (l : GLo w H K N x h cs) (k : Only c w u) (h1 : H ≠ c) (h2 : K ≠ c) : GLo u H K N x h cs := ⟨l.hd.only k h1, l.row.only k h2, l.len, l.n1, l.n2, l.xlt, l.hle, l.ne⟩
theorem GLo.below {B : Nat} (l : GLo w H K N x h cs) (k : Below B w u) (h1 : H < B) (h2 : K < B) : GLo u H K N x h cs := ⟨l.hd.below k h1, l.row.below k h2, l.len, l.n1, l.n2, l.xlt, l.hle, l.ne⟩
theorem GLo.alloc (l : GLo w H K N x h cs) (o : Obj) : GLo (w.alloc o) H K N x h cs := ⟨l.hd.alloc o, l.row.alloc o, l.len, l.n1, l.n2, l.xlt, l.hle, l.ne⟩
theorem GLo.c0 (l : GLo w H K N x h cs) : w.cell? ⟨H, 0, none⟩ = some (.slice (some ⟨K, 0, none⟩) N N) := (l.hd.cell 0).trans rfl
theorem GLo.c1 (l : GLo w H K N x h cs) : w.cell? ⟨H, 1, none⟩ = some (.int .i64 (x : Int)) := (l.hd.cell 1).trans rfl
theorem GLo.c2 (l : GLo w H K N x h cs) : w.cell? ⟨H, 2, none⟩ = some (.int .i64 (h : Int)) := (l.hd.cell 2).trans rfl
theorem GLo.set (l : GLo w H K N x h cs) (x' h' : Nat) (hx : x' < N) (hh : h' ≤ N) : GLo ((w.setCell ⟨H, 1, none⟩ (.int .i64 (x' : Int))).setCell ⟨H, 2, none⟩ (.int .i64 (h' : Int))) H K N x' h' cs := by
  refine ⟨?_, ?_, l.len, l.n1, l.n2, hx, hh, l.ne⟩
  · exact ((l.hd.set 1 _).set 2 _)
  · exact l.row.only (((Only.refl H w).setCell 1 _).setCell 2 _) l.ne.symm
end

theorem gnew_yes (n : Nat) (w : World) (h1 : 1 ≤ n) (h2 : n ≤ 32768) : Calls Tryd.prog 31 #[.int .i64 n] w fun e w' => e = .returned (.tuple #[.pointer (some ⟨w.heap.size + 1, 0, none⟩), .int .i64 0]) ∧
    GLo w' (w.heap.size + 1) w.heap.size n 0 0 (List.replicate n 0) ∧ Below w.heap.size w w' ∧ w'.heap.size = w.heap.size + 2 := by
  have e1 : ¬ (n : Int) < 1 := by omega
  have e2 : ¬ (32768 : Int) < n := by omega
  have hm := gmade n (by omega) w
  generalize hcs : (gvb (List.replicate n 0)).toArray = cs at hm
  go_enter Tryd.func31, Tryd.ntmps31
  go_wp2
  go_ret2
  refine ⟨rfl, ⟨?_, ?_, by simp, h1, h2, h1, Nat.zero_le _, by omega⟩, ?_, ?_⟩
  · have := Cells.new (w.alloc (.cells cs 5)) #[.slice (some ⟨w.heap.size, 0, none⟩) n n, .int .i64 0, .int .i64 0] 65
    simpa using this
  · rw [hcs]
    exact (Cells.new w cs 5).alloc _
  · exact ((Below.refl _ _).alloc (Nat.le_refl _) _).alloc (by simp) _
  · simp
theorem glen_c {H K N x h : Nat} {cs : List Int} (w : World) (l : GLo w H K N x h cs) : Calls Tryd.prog 82 #[.pointer (some ⟨H, 0, none⟩)] w fun e w' => e = .returned (.int .i64 (h : Int)) ∧ w = w' := by
  have h2 := l.c2
  go_enter Tryd.func82, Tryd.ntmps82
  go_wp2
  go_ret
  exact ⟨rfl, rfl⟩
theorem gsize_c {H K N x h : Nat} {cs : List Int} (w : World) (l : GLo w H K N x h cs) : Calls Tryd.prog 74 #[.pointer (some ⟨H, 0, none⟩)] w fun e w' => e = .returned (.int .i64 (N : Int)) ∧ w = w' := by
  have h2 := l.c0
  go_enter Tryd.func74, Tryd.ntmps74
  go_wp2
  go_ret
  exact ⟨rfl, rfl⟩
theorem gclear_c {H K N x h : Nat} {cs : List Int} (w : World) (l : GLo w H K N x h cs) : Calls Tryd.prog 85 #[.pointer (some ⟨H, 0, none⟩)] w fun e w' => e = .returned (.tuple #[]) ∧ GLo w' H K N 0 0 cs ∧ Only H w w' := by
  have h1 := l.c1
  have h2 := l.c2
  have h3 := l.hd.frozen 1
  have h4 := l.hd.frozen 2
  go_enter Tryd.func85, Tryd.ntmps85
  go_wp2
  first | go_end0 | (refine bodyPost_ret (results_none rfl _ _ _) rfl ?_)
  exact ⟨rfl, l.set 0 0 l.n1 (Nat.zero_le _), ((Only.refl _ _).setCell _ _).setCell _ _⟩
theorem gmin_i (h n N : Nat) : (if (N : Int) < (h : Int) + n then (N : Int) else (h : Int) + n) = ((min (h + n) N : Nat) : Int) := by
  split <;> omega
theorem gmove_c {H K N x h : Nat} {cs : List Int} (n : Nat) (w : World) (l : GLo w H K N x h cs) (hn : n ≤ N) : Calls Tryd.prog 75 #[.pointer (some ⟨H, 0, none⟩), .int .i64 (n : Int)] w fun e w' => e = .returned (.tuple #[]) ∧ GLo w' H K N (gfwd N x n) (min (h + n) N) cs ∧ Only H w w' := by
  have h0 := l.c0
  have h1 := l.c1
  have h2 := l.c2
  have h3 := l.hd.frozen 1
  have h4 := l.hd.frozen 2
  have n2 := l.n2
  have xlt := l.xlt
  have hle := l.hle
  have hfl := gfwd_lt xlt hn
  go_enter Tryd.func75, Tryd.ntmps75
  by_cases hf : x + n < N
  · have hf1 : ¬ (N : Int) ≤ (x : Int) + n := by omega
    have hfw : gfwd N x n = x + n := by unfold gfwd; rw [if_pos hf]
    go_wp2_with fail
    go_quiet (fail)
    go_wp2_with fail
    go_region
    go_end0
    rw [gmin_i]
    refine ⟨rfl, ⟨?_, l.row.only ((((Only.refl H w).setCell 1 _).drewN _).setCell 2 _) l.ne.symm, l.len, l.n1, l.n2, hfl, Nat.min_le_right _ _, l.ne⟩, (((Only.refl H w).setCell 1 _).drewN _).setCell 2 _⟩
    rw [hfw]
    exact (((l.hd.set 1 (.int .i64 ((x : Int) + n))).drewN _).set 2 _)
  · have hf1 : (N : Int) ≤ (x : Int) + n := by omega
    have hfw : ((gfwd N x n : Nat) : Int) = (x : Int) + n - N := by unfold gfwd; rw [if_neg hf]; omega
    go_wp2_with fail
    go_quiet (fail)
    go_wp2_with fail
    go_region
    go_wp2_with fail
    go_region
    go_end0
    rw [gmin_i]
    refine ⟨rfl, ⟨?_, l.row.only ((((((Only.refl H w).setCell 1 _).drewN _).setCell 1 _).drewN _).setCell 2 _) l.ne.symm, l.len, l.n1, l.n2, hfl, Nat.min_le_right _ _, l.ne⟩, (((((Only.refl H w).setCell 1 _).drewN _).setCell 1 _).drewN _).setCell 2 _⟩
    rw [hfw]
    exact (((((l.hd.set 1 (.int .i64 ((x : Int) + n))).drewN _).set 1 (.int .i64 ((x : Int) + n - N))).drewN _).set 2 _)
theorem gcell_c {H K N x h : Nat} {cs : List Int} (d : Nat) (w : World) (l : GLo w H K N x h cs) (hd : d ≤ N) : Calls Tryd.prog 90 #[.pointer (some ⟨H, 0, none⟩), .int .i64 (d : Int)] w fun e w' => e = .returned (.int .i64 ((gbck N x d : Nat) : Int)) ∧ w' = w := by
  have h0 := l.c0
  have h1 := l.c1
  have n2 := l.n2
  have xlt := l.xlt
  go_enter Tryd.func90, Tryd.ntmps90
  by_cases hf : d ≤ x
  · have hf1 : ¬ (x : Int) - d < 0 := by omega
    have hb : ((gbck N x d : Nat) : Int) = (x : Int) - d := by unfold gbck; rw [if_pos hf]; omega
    go_wp2_with fail
    go_ret
    exact ⟨by first | rfl | (rw [hb]; rfl), rfl⟩
  · have hf1 : (x : Int) - d < 0 := by omega
    have hb : ((gbck N x d : Nat) : Int) = (x : Int) - d + N := by unfold gbck; rw [if_neg hf]; omega
    go_wp2_with fail
    go_ret
    exact ⟨by first | rfl | (rw [hb]; rfl), rfl⟩
theorem Cells.gbyte {w : World} {b : Nat} {cs : List Int} (h : Cells w b (gvb cs).toArray 5) {i : Nat} {z : Int} (hi : cs[i]? = some z) : w.cell? ⟨b, i, none⟩ = some (.int .u8 z) := by
  rw [h.cell i, List.getElem?_toArray, gvb_get, hi]; rfl
theorem gvb_set (cs : List Int) (i : Nat) (z : Int) : (gvb cs).toArray.setIfInBounds i (.int .u8 z) = (gvb (cs.set i z)).toArray := by
  simp [gvb, List.map_set]
theorem gput_c {H K N x h : Nat} {cs : List Int} (z : Int) (w : World) (l : GLo w H K N x h cs) : Calls Tryd.prog 61 #[.pointer (some ⟨H, 0, none⟩), .int .u8 z] w fun e w' => e = .returned (.tuple #[]) ∧ GLo w' H K N (gfwd N x 1) (min (h + 1) N) (cs.set x z) ∧ GTwo H K w w' := by
  have h0 := l.c0
  have h1 := l.c1
  have n1 := l.n1
  have xlt := l.xlt
  have hx : x < cs.length := by rw [l.len]; exact xlt
  have hxi : (x : Int) < (N : Int) := by omega
  have hr := l.row.gbyte (List.getElem?_eq_getElem hx)
  have hrf := l.row.frozen x
  have hN0 : ((N : Int) == 0) = false := by simp; omega
  go_enter Tryd.func61, Tryd.ntmps61
  go_wp2_with fail
  refine (gsize_c _ l).mono ?_
  rintro e w' ⟨rfl, rfl⟩
  go_wp2_with fail
  go_region
  have ho : Only K w ((w.setCell ⟨K, x, none⟩ (.int .u8 z)).drewN 1) := ((Only.refl K w).setCell x _).drewN 1
  have l2 : GLo ((w.setCell ⟨K, x, none⟩ (.int .u8 z)).drewN 1) H K N x h (cs.set x z) := by
    refine ⟨l.hd.only ho l.ne, ?_, by rw [List.length_set]; exact l.len, l.n1, l.n2, l.xlt, l.hle, l.ne⟩
    have := (l.row.set x (.int .u8 z)).drewN 1
    rwa [gvb_set] at this
  clear h0 h1 hr hrf hN0
  go_wp2_with fail
  refine (gmove_c 1 _ l2 n1).mono ?_
  rintro e w' ⟨rfl, l3, ho3⟩
  go_wp2_with fail
  first | go_end0 | (refine bodyPost_ret (results_none rfl _ _ _) rfl ?_)
  exact ⟨rfl, l3, (GTwo.snd ho).trans (GTwo.fst ho3)⟩
theorem gback_no {H K N x h : Nat} {cs : List Int} (d : Int) (w : World) (l : GLo w H K N x h cs) (hd : d < 1 ∨ (h : Int) < d) : Calls Tryd.prog 87 #[.pointer (some ⟨H, 0, none⟩), .int .i64 d] w fun e w' => e = .returned (.tuple #[.int .u8 0, .bool false]) ∧ w = w' := by
  go_enter Tryd.func87, Tryd.ntmps87
  by_cases h1 : d < 1
  · go_wp2_with fail
    go_ret2
    exact ⟨rfl, rfl⟩
  · have h0 : (h : Int) < d := by omega
    go_wp2_with fail
    refine (glen_c _ l).mono ?_
    rintro e w' ⟨rfl, rfl⟩
    go_wp2_with fail
    go_ret2
    exact ⟨rfl, rfl⟩
theorem gback_yes {H K N x h : Nat} {cs : List Int} (d : Nat) (z : Int) (w : World) (l : GLo w H K N x h cs) (h1 : 1 ≤ d) (h2 : d ≤ h) (hz : cs[gbck N x d]? = some z) :
    Calls Tryd.prog 87 #[.pointer (some ⟨H, 0, none⟩), .int .i64 (d : Int)] w fun e w' => e = .returned (.tuple #[.int .u8 z, .bool true]) ∧ ∃ n, w' = w.drewN n := by
  have hle := l.hle
  have hd : d ≤ N := Nat.le_trans h2 hle
  have e1 : ¬ (d : Int) < 1 := by omega
  have e2 : ¬ (h : Int) < (d : Int) := by omega
  have hb := gbck_lt l.xlt h1 hd
  have hr := l.row.gbyte hz
  have hc := fun w' (l' : GLo w' H K N x h cs) => gcell_c d w' l' hd
  clear hz
  generalize gbck N x d = p at *
  have hpi : (p : Int) < (N : Int) := by omega
  have h0 := l.c0
  go_enter Tryd.func87, Tryd.ntmps87
  go_wp2_with fail
  refine (glen_c _ l).mono ?_
  rintro e w' ⟨rfl, rfl⟩
  go_wp2_with fail
  go_quiet ((first | (go_at_call 90; refine Calls.quiet_of_same (hc _ ?_); first | exact l.drewN _ | exact l | exact l.drew)))
  go_wp2_with fail
  go_ret2
  exact ⟨rfl, _, rfl⟩
end Go.Proofs.YtogednaamndpgaaDoor

/-
  Strings as lists of bytes. No walk.
-/
namespace Go.Proofs.YtogednaamndpgaaDoor
set_option linter.unusedVariables false
theorem Oct.nil : Oct [] := by simp [Oct]
theorem Oct.append {l m : List Nat} (h : Oct l) (k : Oct m) : Oct (l ++ m) := by
  intro x hx
  rcases List.mem_append.1 hx with e | e
  · exact h x e
  · exact k x e
theorem Oct.left {l m : List Nat} (h : Oct (l ++ m)) : Oct l := fun x hx => h x (List.mem_append.2 (Or.inl hx))
theorem Oct.right {l m : List Nat} (h : Oct (l ++ m)) : Oct m := fun x hx => h x (List.mem_append.2 (Or.inr hx))
theorem Oct.take {l : List Nat} (h : Oct l) (k : Nat) : Oct (l.take k) := fun x hx => h x (List.mem_of_mem_take hx)
theorem Oct.drop {l : List Nat} (h : Oct l) (k : Nat) : Oct (l.drop k) := fun x hx => h x (List.mem_of_mem_drop hx)
/-- A string's bytes; bytes as a string. -/
def bl (s : ByteArray) : List Nat := s.data.toList.map UInt8.toNat
def st (l : List Nat) : ByteArray := ⟨(l.map UInt8.ofNat).toArray⟩
theorem bl_length (s : ByteArray) : (bl s).length = s.size := by simp [bl]
theorem st_size (l : List Nat) : (st l).size = l.length := by show (List.toArray _).size = _; simp
theorem st_bl (s : ByteArray) : st (bl s) = s := by
  cases s with
  | mk d => simp [st, bl, Function.comp_def]
theorem bl_st {l : List Nat} (h : Oct l) : bl (st l) = l := by
  simp only [bl, st]
  rw [List.map_map]
  conv => rhs; rw [← List.map_id l]
  refine List.map_congr_left fun x hx => ?_
  have := h x hx
  simp; omega
theorem bl_oct (s : ByteArray) : Oct (bl s) := by
  intro x hx
  obtain ⟨y, _, rfl⟩ := List.mem_map.1 hx
  exact y.toNat_lt
theorem bl_get {s : ByteArray} {k : Nat} (h : k < s.size) : (bl s)[k]? = some (s[k]'h).toNat := by
  have h' : k < s.data.size := h
  unfold bl
  rw [List.getElem?_map, Array.getElem?_toList, Array.getElem?_eq_getElem h']
  rfl
theorem st_get {l : List Nat} {k x : Nat} (ho : Oct l) (hx : l[k]? = some x) (h : k < (st l).size) : ((st l)[k]'h).toNat = x := by
  have e := bl_get h
  rw [bl_st ho, hx] at e
  injection e with e
  exact e.symm
theorem bl_extract (s : ByteArray) (a b : Nat) : bl (s.extract a b) = ((bl s).take b).drop a := by
  simp [bl, ByteArray.data_extract, List.map_drop, List.map_take, List.drop_take]
theorem st_extract (l : List Nat) (a b : Nat) : (st l).extract a b = st ((l.take b).drop a) := by
  rw [ByteArray.ext_iff]
  simp [st, ByteArray.data_extract, List.drop_take]
theorem st_append (l m : List Nat) : st l ++ st m = st (l ++ m) := by
  rw [ByteArray.ext_iff]
  simp [st, ByteArray.data_append]
theorem st_inj {l m : List Nat} (hl : Oct l) (hm : Oct m) (h : st l = st m) : l = m := by rw [← bl_st hl, h, bl_st hm]
theorem st_beq {l m : List Nat} (hl : Oct l) (hm : Oct m) : ((st l).toList == (st m).toList) = decide (l = m) := by
  rw [ByteArray.toList_eq, ByteArray.toList_eq, Bool.eq_iff_iff, beq_iff_eq, decide_eq_true_iff]
  refine ⟨fun e => st_inj hl hm ?_, fun e => by rw [e]⟩
  rw [ByteArray.ext_iff]
  exact Array.toList_inj.1 e
theorem Oct.cons {x : Nat} {l : List Nat} (hx : x < 256) (h : Oct l) : Oct (x :: l) := by
  intro y hy
  rcases List.mem_cons.1 hy with e | e
  · omega
  · exact h y e
theorem Oct.suf {l m : List Nat} (h : Oct l) (k : m <:+ l) : Oct m := fun x hx => h x (k.subset hx)
end Go.Proofs.YtogednaamndpgaaDoor

/-
  A part of a slice of bytes. No walk.
-/
namespace Go.Proofs.YtogednaamndpgaaDoor
open Go.RowKit
set_option linter.unusedVariables false
theorem slice_fe (b o L C f e : Nat) (h1 : f ≤ e) (h2 : e ≤ C) (h3 : f ≠ C) (W : World) : (Instr.slice 33 (.slice (some ⟨b, o, none⟩) L C) (some (.int .i64 (f : Int))) (some (.int .i64 (e : Int))) none).run Tryd.prog W = .ok (.slice (some ⟨b, o + f, none⟩) (e - f) (C - f)) W := by
  have hk1 : (f : Int) ≤ (e : Int) := by omega
  have hk2 : (e : Int) ≤ (C : Int) := by omega
  have hk0 : (0 : Int) ≤ (f : Int) := by omega
  have hk3 : (0 : Int) ≤ (e : Int) := by omega
  have hCk : ¬ C = f := by omega
  have hCk2 : ¬ (C : Int) = (f : Int) := by omega
  clear h1 h2 h3
  go_simp
theorem slice_ee (b o L C : Nat) (W : World) : (Instr.slice 33 (.slice (some ⟨b, o, none⟩) L C) (some (.int .i64 (C : Int))) (some (.int .i64 (C : Int))) none).run Tryd.prog W = .ok (.slice (some ⟨b, o, none⟩) 0 0) W := by
  have hk0 : (0 : Int) ≤ (C : Int) := by omega
  go_simp
theorem slice_00 (p : Addr) (L C : Nat) : ∃ q, ∀ W : World, (Instr.slice 33 (.slice (some p) L C) (some (.int .i64 0)) (some (.int .i64 0)) none).run Tryd.prog W = .ok (.slice (some q) 0 C) W := by
  have hk0 : (0 : Int) ≤ (C : Int) := by omega
  by_cases h : C = 0
  · subst h
    refine ⟨p, fun W => ?_⟩
    go_simp
  · have h2 : ¬ (C : Int) = 0 := by omega
    refine ⟨p.add 0, fun W => ?_⟩
    go_simp
theorem slice_nn (W : World) : (Instr.slice 33 (.slice none 0 0) (some (.int .i64 0)) (some (.int .i64 0)) none).run Tryd.prog W = .ok (.slice none 0 0) W := by go_simp
/-- From f up to e. -/
theorem cut_of (a : Option Addr) (l : List Nat) (L C f e : Nat) (hL : l.length = L) (hLC : L ≤ C) (hf : f ≤ e) (he : e ≤ L) (haz : a = none → L = 0 ∧ C = 0) (w0 : World) (hl : Lies w0 a l) :
    ∃ a2, (∀ W : World, (Instr.slice 33 (.slice a L C) (some (.int .i64 (f : Int))) (some (.int .i64 (e : Int))) none).run Tryd.prog W = .ok (.slice a2 (e - f) (C - f)) W) ∧ (∀ w, Lies w a l → Lies w a2 ((l.take e).drop f)) ∧ (a2 = none → e - f = 0 ∧ C - f = 0) := by
  cases a with
  | none =>
    obtain ⟨h1, h2⟩ := haz rfl
    subst h1
    subst h2
    obtain rfl : e = 0 := by omega
    obtain rfl : f = 0 := by omega
    exact ⟨none, fun W => slice_nn W, fun w _ => Or.inl (by simp), fun _ => ⟨rfl, rfl⟩⟩
  | some p =>
    rcases hl with h | ⟨b, o, h, _⟩
    · rw [h] at hL
      have h0 : L = 0 := by simpa using hL.symm
      subst h0
      obtain rfl : e = 0 := by omega
      obtain rfl : f = 0 := by omega
      obtain ⟨q, hq⟩ := slice_00 p 0 C
      exact ⟨some q, fun W => hq W, fun w _ => Or.inl (by simp), fun h => by cases h⟩
    · cases h
      by_cases h3 : f = C
      · obtain rfl : e = C := by omega
        obtain rfl : L = e := by omega
        subst h3
        refine ⟨some ⟨b, o, none⟩, fun W => ?_, fun w _ => Or.inl (by simp), fun h => by cases h⟩
        rw [Nat.sub_self]
        exact slice_ee b o f f W
      · refine ⟨some ⟨b, o + f, none⟩, fun W => slice_fe b o L C f e hf (by omega) h3 W, fun w h => ?_, fun h => by cases h⟩
        rcases h with rfl | ⟨b', o', ha', hc⟩
        · exact Or.inl (by simp)
        · cases ha'
          refine Or.inr ⟨b, o + f, rfl, fun j x hx => ?_⟩
          rw [List.getElem?_drop, List.getElem?_take] at hx
          split at hx
          · rw [Nat.add_assoc]; exact hc _ _ hx
          · simp at hx
end Go.Proofs.YtogednaamndpgaaDoor

/-
  What the document's is and text come to.
-/
namespace Go.Proofs.YtogednaamndpgaaDoor
open Go.RowKit
set_option linter.unusedVariables false
theorem addr_add (b o j : Nat) : (⟨b, o, none⟩ : Addr).add j = ⟨b, o + j, none⟩ := by unfold Addr.add; split <;> simp_all
theorem conv_st {w : World} {a : Option Addr} {l : List Nat} (L : Nat) (cap : Nat) (hL : l.length = L) (ho : Oct l) (h : Lies w a l) : (convert 33 9 (.slice a L cap)).run Tryd.prog w = .ok (.string (st l)) w := by
  subst hL
  rcases h with rfl | ⟨b, o, rfl, hc⟩
  · cases a with
    | none =>
      simp [convert, run_underlying Tryd.underlying33, run_underlying Tryd.underlying9, run_underlying Tryd.underlying5, st, Conv.bytesToString]
      rfl
    | some ad =>
      have := run_convert_bytes_back (P := Tryd.prog) w 33 9 5 ad cap [] Tryd.underlying33 Tryd.underlying5 Tryd.underlying9 (by simp)
      exact this
  · have := run_convert_bytes_back (P := Tryd.prog) w 33 9 5 ⟨b, o, none⟩ cap (l.map UInt8.ofNat) Tryd.underlying33 Tryd.underlying5 Tryd.underlying9 (fun j hj => by
      rw [addr_add]
      have hj' : j < l.length := by simpa using hj
      rw [hc j l[j] (List.getElem?_eq_getElem hj')]
      have := ho l[j] (List.getElem_mem hj')
      simp
      omega)
    rw [List.length_map] at this
    exact this
section
variable {base R L C : Nat} {a : Option Addr} {r : Gr} {vE : Value}
theorem gnum_pos (b : List Nat) (n : Nat) (r : Gr) (h : r.pos ≤ b.length) : (gnum b n r).pos ≤ b.length := by
  unfold gnum
  split
  · exact h
  · show r.pos + n ≤ b.length; omega
theorem gnum_one {b : List Nat} {r : Gr} (h : r.why = 0) (h0 : (gnum b 1 r).why = 0) : (gnum b 1 r).pos = r.pos + 1 ∧ r.pos < b.length := by
  unfold gnum at h0 ⊢
  split
  · rename_i hc
    rw [if_pos hc] at h0
    simp [gstop] at h0
  · exact ⟨rfl, by omega⟩
end
end Go.Proofs.YtogednaamndpgaaDoor

/-
  The table's map: its keys, a look-up and a store, told by a function of a length and a number.
-/
namespace Go.Proofs.YtogednaamndpgaaDoor
open Go.RowKit Go.WideMaps Go.Maps
set_option linter.unusedVariables false
theorem laidOutK : laidOutB Tryd.prog = true := by kernel_rfl
theorem row70 : (93 : TypeId) < Tryd.prog.types.size := of_decide_eq_true (by kernel_rfl)
theorem cells70 : Tryd.prog.cellsOf 93 = 2 := by kernel_rfl
theorem cells34 : Tryd.prog.cellsOf 34 = 1 := by kernel_rfl
theorem key70 : Tryd.prog.keyType 93 = true := by kernel_rfl
theorem wide70 : (match Tryd.prog.underlying 93 with | some (.array _ _) | some (.struct _) => true | _ => false) = true := by kernel_rfl
set_option maxRecDepth 100000 in
theorem law70 : Keyed Tryd.prog 93 := Keyed.of_law (deep_law_laid laidOutK (m := 2) (by omega) row70 (by kernel_rfl) wide70)
/-- A length and a number, as a key. -/
def way (s c : Nat) : Value := .agg #[.int .u32 (s : Int), .int .u32 (c : Int)]
theorem zero3 (w : World) : (zeroValue 3).run Tryd.prog w = .ok (.int .i64 0) w := by kernel_rfl
theorem wf_u32 {n : Nat} (h : n < 4294967296) : (Lit.int .u32 (n : Int)).wf = true := WalkArith.wf_u32 (by omega)
theorem key_way {s c : Nat} (hs : s < 4294967296) (hc : c < 4294967296) : ∃ kl, keyOf Tryd.prog 93 (way s c) = some kl := by
  have h1 : (Lit.int .u32 (s : Int)).wf = true := wf_u32 hs
  have h2 : (Lit.int .u32 (c : Int)).wf = true := wf_u32 hc
  obtain ⟨T, hT⟩ : ∃ T, Tryd.prog.types.size = T + 2 := ⟨Tryd.prog.types.size - 2, by have : 2 ≤ Tryd.prog.types.size := of_decide_eq_true (by kernel_rfl); omega⟩
  have hf : (way s c).formed Tryd.prog 93 = true := by simp [way, Value.formed, Tryd.underlying93, cells70]
  unfold keyOf
  rw [Tryd.underlying93, key70, hf, hT]
  have e1 : Tryd.prog.keyLits (T + 1 + 1) 34 [.int .u32 (s : Int)] = some [.int .u32 (s : Int)] := by
    unfold Program.keyLits; rw [Tryd.underlying34]; simp only [h1, and_self, if_true]
  have e2 : Tryd.prog.keyLits (T + 1 + 1) 34 [.int .u32 (c : Int)] = some [.int .u32 (c : Int)] := by
    unfold Program.keyLits; rw [Tryd.underlying34]; simp only [h2, and_self, if_true]
  have e3 : ∃ ls, Tryd.prog.keyLits (T + 2 + 1) 93 (way s c).cells.toList = some ls := by
    unfold Program.keyLits
    rw [Tryd.underlying93, cells70]
    refine ⟨[.int .u32 (s : Int), .int .u32 (c : Int)], ?_⟩
    simp [way, Value.cells, cells34, e1, e2]
  obtain ⟨ls, hls⟩ := e3
  exact ⟨.string (keyBytes ls), by simp only [Bool.and_self, if_true, hls, Option.map_some]⟩
theorem way_inj {s c s' c' : Nat} (h : way s c = way s' c') : s = s' ∧ c = c' := by
  unfold way at h
  simp at h
  omega
/-- Block M is a map that has, at a length and a number, what G says. -/
def Mp (w : World) (M k : Nat) (G : Nat → Nat → Option Int) : Prop :=
  ∃ D : DataW Unit, w.ownsMap Tryd.prog 93 (plainElem Tryd.prog 3) M k D ∧ ∀ (s c : Nat) (kl : Lit), keyOf Tryd.prog 93 (way s c) = some kl → Maps.has D kl = (G s c).isSome ∧ D.atKey kl (.lit (.int .i64 0)) = .lit (.int .i64 ((G s c).getD 0))
theorem Mp.made (w : World) : Mp (w.alloc (.map #[] 0)) w.heap.size 0 (fun _ _ => none) :=
  ⟨_, World.ownsMap_made w _ _ _, fun s c kl _ => ⟨rfl, rfl⟩⟩
theorem Mp.lt {w : World} {M k : Nat} {G : Nat → Nat → Option Int} (h : Mp w M k G) : M < w.heap.size := by
  obtain ⟨D, h, _⟩ := h; exact h.lt
theorem Mp.heap {w u : World} {M k : Nat} {G : Nat → Nat → Option Int} (h : Mp w M k G) (e : u.heap[M]? = w.heap[M]?) : Mp u M k G := by
  obtain ⟨D, ⟨es, cl, hb, h2⟩, h3⟩ := h
  exact ⟨D, ⟨es, cl, e.trans hb, h2⟩, h3⟩
theorem Mp.isMap {w : World} {M k : Nat} {G : Nat → Nat → Option Int} (h : Mp w M k G) : ∃ es cl, w.heap[M]? = some (.map es cl) := by
  obtain ⟨D, ⟨es, cl, hb, h2⟩, h3⟩ := h
  exact ⟨es, cl, hb⟩
theorem Mp.below {w u : World} {M k : Nat} {G : Nat → Nat → Option Int} (h : Mp w M k G) (hb : Below w.heap.size w u) : Mp u M k G := h.heap (hb.block M h.lt)
theorem Mp.only {w u : World} {M k b : Nat} {G : Nat → Nat → Option Int} (h : Mp w M k G) (hb : Only b w u) (hne : M ≠ b) : Mp u M k G := h.heap (hb.block M hne)
theorem Mp.drew {w : World} {M k : Nat} {G : Nat → Nat → Option Int} (h : Mp w M k G) : Mp w.drew M k G := h
theorem Mp.congr {w : World} {M k : Nat} {G G' : Nat → Nat → Option Int} (h : Mp w M k G) (e : ∀ s c, G s c = G' s c) : Mp w M k G' := by
  have : G = G' := by funext s c; exact e s c
  rw [← this]; exact h
/-- A look-up. -/
theorem run_look (w : World) (M k s c : Nat) (G : Nat → Nat → Option Int) (hown : Mp w M k G) (hs : s < 4294967296) (hc : c < 4294967296) (r : Option Int) (hr : G s c = r) :
    (Instr.lookup 87 (.map (some M)) (.agg #[.int .u32 (s : Int), .int .u32 (c : Int)]) true).run Tryd.prog w = .ok (.tuple #[.int .i64 (r.getD 0), .bool r.isSome]) w := by
  obtain ⟨D, hD, hG⟩ := hown
  obtain ⟨kl, hk⟩ := key_way hs hc
  obtain ⟨g1, g2⟩ := hG s c kl hk
  subst hr
  obtain ⟨v, ps, hrun, hv⟩ := hD.look_ok law70 Tryd.underlying87 (zero3 w) (plainElem_int Tryd.underlying3 (by decide)) hk
  obtain ⟨z, rfl, hz, _⟩ := plainElem_int_inv Tryd.underlying3 hv
  have hz2 := congrArg Prod.fst hz
  simp only [] at hz2
  rw [g2] at hz2
  cases hz2
  rw [g1] at hrun
  exact hrun
/-- A store. -/
theorem run_put (w : World) (M k s c : Nat) (n : Int) (G : Nat → Nat → Option Int) (hown : Mp w M k G) (hk : k < 140737488355328) (hs : s < 4294967296) (hc : c < 4294967296) (hn : (Lit.int .i64 n).wf = true) :
    ∃ w', (Instr.mapUpdate 87 (.map (some M)) (.agg #[.int .u32 (s : Int), .int .u32 (c : Int)]) (.int .i64 n)).run Tryd.prog w = .ok () w' ∧ Mp w' M (k + 1) (fun s' c' => if s' = s ∧ c' = c then some n else G s' c') ∧ w.grownBy w' (some M) := by
  obtain ⟨D, hD, hG⟩ := hown
  obtain ⟨kl, hkl⟩ := key_way hs hc
  obtain ⟨w', hrun, h1, h2⟩ := hD.update law70 Tryd.underlying87 (by unfold maxLen; omega) hkl (plainElem_int Tryd.underlying3 hn)
  refine ⟨w', hrun, ⟨_, h1, ?_⟩, h2⟩
  intro s' c' kl' hkl'
  by_cases e : s' = s ∧ c' = c
  · obtain ⟨rfl, rfl⟩ := e
    rw [hkl] at hkl'
    cases hkl'
    simp only []
    rw [if_pos ⟨trivial, trivial⟩]
    exact ⟨has_put_same hD.isMap (law70.key hkl) _, atKey_put_same hD.isMap (law70.key hkl) _ _⟩
  · have hne : kl' ≠ kl := fun e' => e (way_inj (law70.inj (e' ▸ hkl') hkl))
    simp only []
    rw [if_neg e, has_put_other hne, atKey_put_other hne]
    exact hG s' c' kl' hkl'
end Go.Proofs.YtogednaamndpgaaDoor

/-
  What the program's map holds when the codes of the first symbols have been laid: each code's symbol, and -1 at all beginnings of codes. No walk in this text.
-/
namespace Go.Proofs.YtogednaamndpgaaDoor
set_option linter.unusedVariables false
/-- The codes of the first i symbols have been laid. -/
structure Laidm (ls : List Nat) (i : Nat) (G : Nat → Nat → Option Int) : Prop where
  sym : ∀ (s n : Nat), s < i → ls[s]? = some n → 0 < n → G n (code ls s n) = some (s : Int)
  beg : ∀ (j m n : Nat), j < i → ls[j]? = some m → n < m → G n (code ls j m / 2 ^ (m - n)) = some (-1)
  all : ∀ (n x : Nat) (v : Int), G n x = some v → (∃ s : Nat, s < i ∧ ls[s]? = some n ∧ 0 < n ∧ code ls s n = x ∧ v = (s : Int)) ∨ (∃ j m : Nat, j < i ∧ ls[j]? = some m ∧ n < m ∧ code ls j m / 2 ^ (m - n) = x ∧ v = -1)
theorem Laidm.none (ls : List Nat) : Laidm ls 0 (fun _ _ => Option.none) :=
  ⟨fun s n h => by omega, fun j m n h => by omega, fun n x v h => by cases h⟩
/-- A symbol without a code. -/
theorem Laidm.skip {ls : List Nat} {i : Nat} {G : Nat → Nat → Option Int} (h : Laidm ls i G) (hi : ls[i]? = some 0) : Laidm ls (i + 1) G := by
  refine ⟨fun s n hs hn h0 => ?_, fun j m n hj hm hnm => ?_, fun n x v hv => ?_⟩
  · rcases (show s < i ∨ s = i by omega) with h1 | rfl
    · exact h.sym s n h1 hn h0
    · rw [hi] at hn; cases hn; omega
  · rcases (show j < i ∨ j = i by omega) with h1 | rfl
    · exact h.beg j m n h1 hm hnm
    · rw [hi] at hm; cases hm; omega
  · rcases h.all n x v hv with ⟨s, h1, h2⟩ | ⟨j, m, h1, h2⟩
    · exact Or.inl ⟨s, by omega, h2⟩
    · exact Or.inr ⟨j, m, by omega, h2⟩
/-- While a symbol's code of m bits is laid: its beginnings down to p bits. -/
def lp (i m c p : Nat) (G : Nat → Nat → Option Int) (n x : Nat) : Option Int :=
  if n = m ∧ x = c then some (i : Int) else if p ≤ n ∧ n < m ∧ x = c / 2 ^ (m - n) then some (-1) else G n x
theorem lp_first (i m c : Nat) (G : Nat → Nat → Option Int) (n x : Nat) : (if n = m ∧ x = c then some (i : Int) else G n x) = lp i m c m G n x := by
  unfold lp
  by_cases h : n = m ∧ x = c
  · rw [if_pos h, if_pos h]
  · rw [if_neg h, if_neg h, if_neg (by omega)]
theorem lp_next {i m c p : Nat} (G : Nat → Nat → Option Int) (hp : p < m) (n x : Nat) : (if n = p ∧ x = c / 2 ^ (m - p) then some (-1) else lp i m c (p + 1) G n x) = lp i m c p G n x := by
  unfold lp
  by_cases h1 : n = p ∧ x = c / 2 ^ (m - p)
  · obtain ⟨rfl, rfl⟩ := h1
    rw [if_pos ⟨rfl, rfl⟩, if_neg (by omega), if_pos ⟨Nat.le_refl _, hp, rfl⟩]
  · rw [if_neg h1]
    by_cases h2 : n = m ∧ x = c
    · rw [if_pos h2, if_pos h2]
    · rw [if_neg h2, if_neg h2]
      by_cases h3 : p + 1 ≤ n ∧ n < m ∧ x = c / 2 ^ (m - n)
      · rw [if_pos h3, if_pos ⟨by omega, h3.2⟩]
      · rw [if_neg h3, if_neg]
        rintro ⟨a, b, d⟩
        rcases (show p + 1 ≤ n ∨ n = p by omega) with e | rfl
        · exact h3 ⟨e, b, d⟩
        · exact h1 ⟨rfl, d⟩
theorem lp_below {i m c p n x : Nat} (G : Nat → Nat → Option Int) (hn : n < p) (hp : p ≤ m) : lp i m c p G n x = G n x := by
  unfold lp; rw [if_neg (by omega), if_neg (by omega)]
/-- A symbol's code is laid, and all its beginnings: those that were not there ahead of it. -/
theorem Laidm.put {ls : List Nat} {i m c p : Nat} {G : Nat → Nat → Option Int} (h : Laidm ls i G) (hi : ls[i]? = some m) (hm : 0 < m) (hc : code ls i m = c) (hp : p ≤ m)
    (hend : 0 < p → (G (p - 1) (c / 2 ^ (m - (p - 1)))).isSome = true) : Laidm ls (i + 1) (lp i m c p G) := by
  subst hc
  refine ⟨fun s n hs hn h0 => ?_, fun j m' n hj hm' hnm => ?_, fun n x v hv => ?_⟩
  · rcases (show s < i ∨ s = i by omega) with h1 | rfl
    · unfold lp
      rw [if_neg, if_neg, h.sym s n h1 hn h0]
      · rintro ⟨a, b, d⟩
        have := code_apart hn hi h0 (by omega) d.symm
        omega
      · rintro ⟨rfl, d⟩
        have := code_apart hn hi h0 (Nat.le_refl _) (by rw [Nat.sub_self, Nat.pow_zero, Nat.div_one]; exact d.symm)
        omega
    · rw [hi] at hn; cases hn
      unfold lp
      rw [if_pos ⟨rfl, rfl⟩]
  · rcases (show j < i ∨ j = i by omega) with h1 | rfl
    · unfold lp
      rw [if_neg]
      · split
        · rfl
        · exact h.beg j m' n h1 hm' hnm
      · rintro ⟨rfl, d⟩
        have := code_apart hi hm' hm (by omega) d
        omega
    · rw [hi] at hm'; cases hm'
      unfold lp
      rw [if_neg (by omega)]
      by_cases hpn : p ≤ n
      · rw [if_pos ⟨hpn, hnm, rfl⟩]
      · rw [if_neg (by omega)]
        have hs := hend (by omega)
        obtain ⟨v, hv⟩ := Option.isSome_iff_exists.1 hs
        rcases h.all _ _ v hv with ⟨s, h1, h2, h3, h4, h5⟩ | ⟨j', m', h1, h2, h3, h4, h5⟩
        · have := code_apart h2 hi h3 (by omega) h4.symm
          omega
        · have hb := h.beg j' m' n h1 h2 (by omega)
          have e1 : code ls j' m' / 2 ^ (m' - n) = code ls j' m' / 2 ^ (m' - (p - 1)) / 2 ^ (p - 1 - n) := by
            rw [Nat.div_div_eq_div_mul, ← Nat.pow_add, show m' - (p - 1) + (p - 1 - n) = m' - n by omega]
          have e2 : code ls j m / 2 ^ (m - n) = code ls j m / 2 ^ (m - (p - 1)) / 2 ^ (p - 1 - n) := by
            rw [Nat.div_div_eq_div_mul, ← Nat.pow_add, show m - (p - 1) + (p - 1 - n) = m - n by omega]
          rw [e2, ← h4, ← e1]
          exact hb
  · unfold lp at hv
    split at hv
    · rename_i e
      obtain ⟨rfl, rfl⟩ := e
      cases hv
      exact Or.inl ⟨i, by omega, hi, hm, rfl, rfl⟩
    · split at hv
      · rename_i e
        cases hv
        exact Or.inr ⟨i, m, by omega, hi, e.2.1, e.2.2.symm, rfl⟩
      · rcases h.all n x v hv with ⟨s, h1, h2⟩ | ⟨j, m', h1, h2⟩
        · exact Or.inl ⟨s, by omega, h2⟩
        · exact Or.inr ⟨j, m', by omega, h2⟩
/-- What a look at the first n bits tells. -/
theorem Laidm.hit {ls : List Nat} {G : Nat → Nat → Option Int} (h : Laidm ls ls.length G) {l : List Bool} {n : Nat} {v : Int} (hn : n ≤ l.length) (hv : G n (num (l.take n)) = some v) (h1 : v ≠ -1) : ∃ s : Nat, v = (s : Int) ∧ Hit ls l s n := by
  rcases h.all _ _ v hv with ⟨s, a1, a2, a3, a4, a5⟩ | ⟨j, m, a1, a2, a3, a4, a5⟩
  · exact ⟨s, a5, a2, a3, hn, a4.symm⟩
  · exact absurd a5 h1
theorem lt_of_at {ls : List Nat} {s n : Nat} (h : ls[s]? = some n) : s < ls.length := (List.getElem?_eq_some_iff.1 h).1
theorem Laidm.of_hit {ls : List Nat} {G : Nat → Nat → Option Int} (h : Laidm ls ls.length G) {l : List Bool} {s k : Nat} (hh : Hit ls l s k) : G k (num (l.take k)) = some (s : Int) := by
  obtain ⟨a1, a2, a3, a4⟩ := hh
  rw [a4]
  exact h.sym s k (lt_of_at a1) a1 a2
/-- All of the first n beginnings are begun: no code of fewer bits stands there. -/
theorem Laidm.bad {ls : List Nat} {G : Nat → Nat → Option Int} (h : Laidm ls ls.length G) {l : List Bool} {n : Nat} (hn : n ≤ l.length) (hb : ∀ k, k < n → G k (num (l.take k)) = some (-1)) (hno : G n (num (l.take n)) = Option.none) :
    (∀ i k, ¬ Hit ls l i k) ∧ ¬ May ls l := by
  refine ⟨fun s k hh => ?_, ?_⟩
  · have hs := h.of_hit hh
    rcases Nat.lt_trichotomy k n with hlt | rfl | hgt
    · rw [hb k hlt] at hs; injection hs with hs; omega
    · rw [hno] at hs; cases hs
    · have := h.beg s k n (lt_of_at hh.1) hh.1 hgt
      rw [← hh.2.2.2, ← take_num (by omega) hh.2.2.1, hno] at this
      cases this
  · rintro ⟨j, m, h1, h2, h3, h4⟩
    rcases (show n < m ∨ n = m by omega) with hlt | rfl
    · have := h.beg j m n (lt_of_at h1) h1 hlt
      have e : code ls j m / 2 ^ (m - n) = num (l.take n) := by
        have e1 := take_num (h := l) hn (Nat.le_refl _)
        rw [List.take_length, ← h4, Nat.div_div_eq_div_mul, ← Nat.pow_add, show m - l.length + (l.length - n) = m - n by omega] at e1
        exact e1.symm
      rw [e, hno] at this
      cases this
    · have e : n = l.length := by omega
      have := h.sym j n (lt_of_at h1) h1 h2
      rw [e, Nat.sub_self, Nat.pow_zero, Nat.div_one] at h4
      rw [e] at this hno
      rw [List.take_length] at hno
      rw [h4, hno] at this
      cases this
theorem Laidm.more {ls : List Nat} {G : Nat → Nat → Option Int} (h : Laidm ls ls.length G) (h15 : ∀ x ∈ ls, x ≤ 15) {l : List Bool} {n : Nat} (hn : n = min l.length 15) (hb : ∀ k, k ≤ n → G k (num (l.take k)) = some (-1)) :
    n = l.length ∧ (∀ i k, ¬ Hit ls l i k) ∧ May ls l := by
  rcases h.all _ _ _ (hb n (Nat.le_refl _)) with ⟨s, a1, a2, a3, a4, a5⟩ | ⟨j, m, a1, a2, a3, a4, a5⟩
  · omega
  · have := h15 m (List.mem_of_getElem? a2)
    have e : n = l.length := by omega
    refine ⟨e, fun s k hh => ?_, j, m, a2, by omega, by omega, ?_⟩
    · have hs := h.of_hit hh
      rw [hb k (by have := hh.2.2.1; omega)] at hs
      injection hs with hs; omega
    · rw [← e, a4, e, List.take_length]
end Go.Proofs.YtogednaamndpgaaDoor

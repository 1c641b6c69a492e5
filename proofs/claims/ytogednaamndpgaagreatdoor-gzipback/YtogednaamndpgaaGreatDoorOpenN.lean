/-
 How an argument that is a list of members, or one member, is opened, where what came in is small.
-/
import Derived.Test.YtogednaamndpgaaGreatDoorRows
import Derived.ProofKit
import Derived.OpenShut
import Derived.Deep.Slices
import Derived.ChangeSame
import Derived.SizedLaws
import Derived.Test.YtogednaamndpgaaGreatDoorWmh
import Derived.Deep.SlicePairs
namespace Go.Proofs.YtogednaamndpgaaGreatDoor
open Go.ChangeShapes Go.WideShapes Go.ChangeAt Go.RowKit
set_option linter.unusedVariables false
theorem weights_all {H : Type} {P : Program} {e : TypeId} : ∀ {l : List (DataW H)} {d : DataW H}, d ∈ l → ∀ n ∈ d.weights P e, n ∈ DataW.weightsAll P e l
 | x :: l, d, hd, n, hn => by
  rw [DataW.weightsAll]
  rcases List.mem_cons.1 hd with rfl | hd
  ·exact List.mem_append_left _ hn
  ·exact List.mem_append_right _ (weights_all hd n hn)
theorem bl_len2 (s : ByteArray) : (bl s).length = s.size := by simp [bl]
theorem st_bl2 (s : ByteArray) : st (bl s) = s := by
 cases s with
 | mk d => simp [st, bl, Function.comp_def]
theorem bl_oct2 (s : ByteArray) : Oct (bl s) := by
 intro x hx
 obtain ⟨y, _, rfl⟩ := List.mem_map.1 hx
 exact y.toNat_lt
theorem word_of_wf {z : Int} (h : (Lit.int .u16 z).wf = true) : ∃ x : Nat, z = (x : Int) ∧ x < 65536 := by
 have h8 : 0 ≤ z ∧ z ≤ 65535 := by simpa [Lit.wf, IntKind.min, IntKind.max, IntKind.signed, IntKind.bits] using h
 exact ⟨z.toNat, by omega, by omega⟩
theorem byte_of_wf' {z : Int} (h : (Lit.int .u8 z).wf = true) : ∃ x : Nat, z = (x : Int) ∧ x < 256 := by
 have h8 : 0 ≤ z ∧ z ≤ 255 := by simpa [Lit.wf, IntKind.min, IntKind.max, IntKind.signed, IntKind.bits] using h
 exact ⟨z.toNat, by omega, by omega⟩
section
variable {H : Type} {enc : TypeId × Value → H} {P : Program} {w : World} {held : Bool}
theorem open_cell {t e : TypeId} {fuel : Nat} {s : Value} {x : DataW H × List MemPlace} (ht : P.underlying t = some (.slice e)) (he : P.underlying e = some (.int .u8)) (hc : P.cellsOf e = 1) (hbe : P.bytesOf e = 1)
  (hf : DataW.trod enc P w 0 (fun _ => true) held fuel t [s] = some x) (hz : ∀ n ∈ x.1.weights P t, n ≤ reachBytes) :
  ∃ (a : Option Addr) (l : List Nat) (cap : Nat), s = .slice a l.length cap ∧ l.length ≤ cap ∧ cap < 140737488355328 ∧ Oct l ∧ Lies w a l ∧ (a = none → l.length = 0 ∧ cap = 0) := by
 rcases Deep.open_slice1 ht hc hf with ⟨hcs, _⟩ | ⟨a', len, cap, m, n, V, D, Pl, hcs, _, hl, hm, hmm, hxe, hx⟩
 ·simp at hcs
  exact ⟨none, [], 0, hcs, Nat.le_refl _, by decide, (fun x hx => by cases hx), Or.inl rfl, fun _ => ⟨rfl, rfl⟩⟩
 ·simp at hcs
  simp only [if_true] at hmm
  subst hmm
  have hcap : m < 140737488355328 := by
   have := hz ((((List.range len).map D).length + ((List.range (m - len)).map fun j => D (len + j)).length) * P.bytesOf e) (by rw [hxe]; simp [DataW.weights, ht])
   rw [hbe] at this
   simp only [List.length_map, List.length_range] at this
   have h2 := reachBytes_lt
   omega
  by_cases h0 : len = 0
  ·subst h0
   exact ⟨some a', [], m, hcs, hl, hcap, (fun x hx => by cases hx), Or.inl rfl, fun h => by cases h⟩
  obtain ⟨b, off, spot⟩ := a'
  have g := (hx 0 (by omega)).1
  have hs : spot = none := by simpa [Addr.add] using World.cell?_spot g
  subst hs
  have each : ∀ i, i < len → ∃ x : Nat, w.cell? ⟨b, off + i, none⟩ = some (.int .u8 (x : Int)) ∧ x < 256 := by
   intro i hi
   obtain ⟨g0, g1⟩ := hx i (by omega)
   obtain ⟨z, hz0, _, hw⟩ := DataW.trod_int he g1
   obtain ⟨x, rfl, hx⟩ := byte_of_wf' hw
   simp only [List.cons.injEq, and_true] at hz0
   rw [hz0] at g0
   refine ⟨x, ?_, hx⟩
   rw [← g0]; congr 1; unfold Addr.add; split
   ·simp_all
   ·rfl
  obtain ⟨X, hX⟩ := Deep.choose_lt each
  refine ⟨_, (List.range len).map X, m, by simpa using hcs, by simpa using hl, hcap, ?_, Or.inr ⟨b, off, rfl, fun i x hx' => ?_⟩, fun h => by cases h⟩
  ·intro x hx'
   obtain ⟨i, hi, rfl⟩ := List.mem_map.1 hx'
   exact (hX i (List.mem_range.1 hi)).2
  ·have hi : i < len := by
    have := (List.getElem?_eq_some_iff.1 hx').1
    simpa using this
   simp [hi] at hx'
   rw [← hx']
   exact (hX i hi).1
theorem add_at (b o k : Nat) : (⟨b, o, none⟩ : Addr).add k = ⟨b, o + k, none⟩ := by
 unfold Addr.add
 split
 ·simp_all
 ·rfl
theorem open_plan {t e : TypeId} {f0 f1 f2 f3 : Field} {fuel : Nat} {s : Value} {d : DataW H} {pl : List MemPlace} (ht : P.underlying t = some (.slice e)) (he : P.underlying e = some (.struct #[f0, f1, f2, f3]))
  (ce : P.cellsOf e = 4) (o0 : f0.offset = 0) (o1 : f1.offset = 1) (o2 : f2.offset = 2) (o3 : f3.offset = 3) (c0 : P.cellsOf f0.type = 1) (c1 : P.cellsOf f1.type = 1) (c2 : P.cellsOf f2.type = 1) (c3 : P.cellsOf f3.type = 1)
  (u0 : P.underlying f0.type = some (.int .u8)) (u1 : P.underlying f1.type = some (.int .u16)) (u2 : P.underlying f2.type = some .bool) (u3 : P.underlying f3.type = some .bool)
  (hbe : P.bytesOf e = 6) (hf : DataW.trod enc P w 0 (fun _ => true) held fuel t [s] = some (d, pl)) (hz : ∀ n ∈ d.weights P t, n ≤ reachBytes) :
  ∃ (a : Option Addr) (ps : List Pb) (cap : Nat), s = .slice a ps.length cap ∧ Plan w a ps ∧ (∀ q ∈ ps, q.kd < 256 ∧ q.by_ < 65536) ∧ ps.length ≤ 140737488355328 := by
 rcases Deep.open_slice ht hf with ⟨hcs, hd⟩ | ⟨a', len, cap, m, n, D, Pl, hcs, _, hl, hm, hmm, hxe, hx⟩
 ·simp at hcs
  exact ⟨none, [], 0, hcs, Or.inl rfl, (fun q hq => by cases hq), Nat.zero_le _⟩
 ·simp at hcs
  have hlm : len ≤ m := by rw [hmm]; split <;> omega
  have hbd : len ≤ 140737488355328 := by
   have := hz ((((List.range len).map D).length + ((List.range (m - len)).map fun j => D (len + j)).length) * P.bytesOf e) (by rw [(Prod.mk.inj hxe).1]; simp [DataW.weights, ht])
   rw [hbe] at this
   simp only [List.length_map, List.length_range] at this
   have h2 := reachBytes_lt
   omega
  by_cases h0 : len = 0
  ·subst h0
   exact ⟨some a', [], cap, hcs, Or.inl rfl, (fun q hq => by cases hq), Nat.zero_le _⟩
  obtain ⟨b, off, spot⟩ := a'
  have each0 : ∀ i, i < len → ∃ v0 v1 v2 v3 y0 y1 y2 y3 k, w.cell? ((⟨b, off, spot⟩ : Addr).add (i * 4) |>.add 0) = some v0 ∧ w.cell? ((⟨b, off, spot⟩ : Addr).add (i * 4) |>.add 1) = some v1 ∧ w.cell? ((⟨b, off, spot⟩ : Addr).add (i * 4) |>.add 2) = some v2 ∧ w.cell? ((⟨b, off, spot⟩ : Addr).add (i * 4) |>.add 3) = some v3 ∧
    DataW.trod enc P w 0 (fun _ => true) held k f0.type [v0] = some y0 ∧ DataW.trod enc P w 0 (fun _ => true) held k f1.type [v1] = some y1 ∧ DataW.trod enc P w 0 (fun _ => true) held k f2.type [v2] = some y2 ∧ DataW.trod enc P w 0 (fun _ => true) held k f3.type [v3] = some y3 := by
   intro i hi
   obtain ⟨cs', h1, h2⟩ := hx i (by omega)
   rw [ce] at h1
   obtain ⟨_, hlen, hcell⟩ := World.cells?_some h1
   obtain ⟨xs, k, hk, hxy, _, hxl, hf⟩ := DataW.trod_struct he h2
   match xs, hxl, cs', hlen with
   | [y0, y1, y2, y3], _, [v0, v1, v2, v3], _ =>
    have g0 := hf 0 f0 rfl
    have g1 := hf 1 f1 rfl
    have g2 := hf 2 f2 rfl
    have g3 := hf 3 f3 rfl
    simp [o0, o1, o2, o3, c0, c1, c2, c3] at g0 g1 g2 g3
    have e0 := hcell 0 (by omega)
    have e1 := hcell 1 (by omega)
    have e2 := hcell 2 (by omega)
    have e3 := hcell 3 (by omega)
    exact ⟨v0, v1, v2, v3, y0, y1, y2, y3, k, by simpa using e0, by simpa using e1, by simpa using e2, by simpa using e3, g0, g1, g2, g3⟩
  have hs : spot = none := by
   obtain ⟨v0, v1, v2, v3, y0, y1, y2, y3, k, g, _⟩ := each0 0 (by omega)
   simpa [Addr.add] using World.cell?_spot g
  subst hs
  have each : ∀ i, i < len → ∃ q : Pb, w.cell? ⟨b, off + i * 4, none⟩ = some (.int .u8 (q.kd : Int)) ∧ w.cell? ⟨b, off + i * 4 + 1, none⟩ = some (.int .u16 (q.by_ : Int)) ∧ w.cell? ⟨b, off + i * 4 + 2, none⟩ = some (.bool q.cp) ∧ w.cell? ⟨b, off + i * 4 + 3, none⟩ = some (.bool q.rn) ∧ q.kd < 256 ∧ q.by_ < 65536 := by
   intro i hi
   obtain ⟨v0, v1, v2, v3, y0, y1, y2, y3, k, e0, e1, e2, e3, g0, g1, g2, g3⟩ := each0 i hi
   obtain ⟨x, hx0, _, hw0⟩ := DataW.trod_int u0 g0
   obtain ⟨z, hz0, _, hw1⟩ := DataW.trod_int u1 g1
   obtain ⟨p2, hp2, _⟩ := DataW.trod_bool u2 g2
   obtain ⟨p3, hp3, _⟩ := DataW.trod_bool u3 g3
   simp only [List.cons.injEq, and_true] at hx0 hz0 hp2 hp3
   rw [hx0, add_at, add_at] at e0
   rw [hz0, add_at, add_at] at e1
   rw [hp2, add_at, add_at] at e2
   rw [hp3, add_at, add_at] at e3
   obtain ⟨xn, rfl, hb0⟩ := byte_of_wf' hw0
   obtain ⟨zn, rfl, hb1⟩ := word_of_wf hw1
   exact ⟨⟨xn, zn, p2, p3⟩, e0, e1, e2, e3, hb0, hb1⟩
  haveI : Inhabited Pb := ⟨⟨0, 0, false, false⟩⟩
  obtain ⟨Q, hc⟩ := Deep.choose_lt each
  refine ⟨some ⟨b, off, none⟩, (List.range len).map Q, cap, by rw [List.length_map, List.length_range]; exact hcs, Or.inr ⟨b, off, rfl, fun i x hx => ?_⟩, fun q hq => ?_, by rw [List.length_map, List.length_range]; exact hbd⟩
  ·have hi : i < len := by have := (List.getElem?_eq_some_iff.1 hx).1; rwa [List.length_map, List.length_range] at this
   rw [List.getElem?_map, List.getElem?_range hi] at hx
   simp only [Option.map_some, Option.some.injEq] at hx
   subst hx
   have := hc i hi
   exact ⟨this.1, this.2.1, this.2.2.1, this.2.2.2.1⟩
  ·obtain ⟨i, hi, rfl⟩ := List.mem_map.1 hq
   exact (hc i (List.mem_range.1 hi)).2.2.2.2
end
structure Five (w : World) (m : Mb) (v0 v1 v2 v3 v4 : Value) : Prop where
 ex : ∃ ea ec da dc pa pc, v0 = .string (st m.nm) ∧ v1 = .slice ea m.ex.length ec ∧ v2 = .bool m.sb ∧ v3 = .slice da m.dt.length dc ∧ v4 = .slice pa m.ps.length pc ∧ Sl w ea m.ex ec ∧ Sl w da m.dt dc ∧ Plan w pa m.ps
 ok : Mo0 m
theorem cells5m : Tryz.prog.cellsOf 5 = 1 := by kernel_rfl
theorem cells22m : Tryz.prog.cellsOf 22 = 1 := by kernel_rfl
theorem cells9m : Tryz.prog.cellsOf 9 = 1 := by kernel_rfl
theorem cells4m : Tryz.prog.cellsOf 4 = 1 := by kernel_rfl
theorem cells51m : Tryz.prog.cellsOf 51 = 1 := by kernel_rfl
theorem cells53m : Tryz.prog.cellsOf 53 = 5 := by kernel_rfl
theorem bytes5m : Tryz.prog.bytesOf 5 = 1 := by kernel_rfl
theorem bytes107m : Tryz.prog.bytesOf 107 = 6 := by kernel_rfl
theorem cells107m : Tryz.prog.cellsOf 107 = 4 := by kernel_rfl
theorem cells105m : Tryz.prog.cellsOf 105 = 1 := by kernel_rfl
section
variable {H : Type} {enc : TypeId × Value → H} {w : World} {held : Bool}
set_option maxRecDepth 100000 in
theorem open_member {fuel : Nat} {cs : List Value} {d : DataW H} {pl : List MemPlace} (h : DataW.trod enc Tryz.prog w 0 (fun _ => true) held fuel 53 cs = some (d, pl)) (hl : cs.length = 5) (hz : ∀ n ∈ d.weights Tryz.prog 53, n ≤ reachBytes) : ∃ m v0 v1 v2 v3 v4, cs = [v0, v1, v2, v3, v4] ∧ Five w m v0 v1 v2 v3 v4 := by
 obtain ⟨xs, k, hk, hxy, _, hxl, hf⟩ := DataW.trod_struct Tryz.underlying53 h
 match xs, hxl, cs, hl with
 | [y0, y1, y2, y3, y4], _, [v0, v1, v2, v3, v4], _ =>
  have g0 := hf 0 _ rfl
  have g1 := hf 1 _ rfl
  have g2 := hf 2 _ rfl
  have g3 := hf 3 _ rfl
  have g4 := hf 4 _ rfl
  simp [cells9m, cells22m, cells4m, cells51m] at g0 g1 g2 g3 g4
  have hd : d = .agg [y0.1, y1.1, y2.1, y3.1, y4.1] := (Prod.mk.inj hxy).1
  have hw : d.weights Tryz.prog 53 = y0.1.weights Tryz.prog 9 ++ (y1.1.weights Tryz.prog 22 ++ (y2.1.weights Tryz.prog 4 ++ (y3.1.weights Tryz.prog 22 ++ (y4.1.weights Tryz.prog 51 ++ [])))) := by
   rw [hd]
   simp only [DataW.weights, Tryz.underlying53]
   rfl
  rw [hw] at hz
  have z1 : ∀ n ∈ y1.1.weights Tryz.prog 22, n ≤ reachBytes := fun n hn => hz n (by simp [hn])
  have z3 : ∀ n ∈ y3.1.weights Tryz.prog 22, n ≤ reachBytes := fun n hn => hz n (by simp [hn])
  have z4 : ∀ n ∈ y4.1.weights Tryz.prog 51, n ≤ reachBytes := fun n hn => hz n (by simp [hn])
  obtain ⟨S, hS, hy0, hSl⟩ := DataW.trod_string Tryz.underlying9 g0
  obtain ⟨ea, ex, ec, he1, he4, he6, he2, he3, he5⟩ := open_cell Tryz.underlying22 Tryz.underlying5 cells5m bytes5m g1 z1
  obtain ⟨sb, hsb, _⟩ := DataW.trod_bool Tryz.underlying4 g2
  obtain ⟨da, dt, dc, hd1, hd4, hd6, hd2, hd3, hd5⟩ := open_cell Tryz.underlying22 Tryz.underlying5 cells5m bytes5m g3 z3
  obtain ⟨pa, ps, pc, hp1, hp2, hp3, hp4⟩ := open_plan Tryz.underlying51 Tryz.underlying107 cells107m rfl rfl rfl rfl cells5m cells105m cells4m cells4m Tryz.underlying5 Tryz.underlying105 Tryz.underlying4 Tryz.underlying4 (d := y4.1) (pl := y4.2) bytes107m g4 z4
  simp only [List.cons.injEq, and_true] at hS hsb
  have hSb : (bl S).length ≤ 9223372036854775807 := by
   rw [bl_len2]
   unfold maxLen at hSl
   omega
  refine ⟨⟨bl S, ex, sb, dt, ps⟩, v0, v1, v2, v3, v4, rfl, ⟨ea, ec, da, dc, pa, pc, by rw [hS, st_bl2], he1, hsb, hd1, hp1, ⟨he3, he4, he5⟩, ⟨hd3, hd4, hd5⟩, hp2⟩, ⟨bl_oct2 S, hSb, he2, by show ex.length ≤ _; omega, hd2, by show dt.length ≤ _; omega, by show ps.length ≤ _; omega, hp3⟩⟩
set_option maxRecDepth 100000 in
theorem open_ma {b0 : Nat} {r : Reach} {v : Value} {d : DataW H} {p : List MemPlace} (hv : Value.okWide Tryz.prog w r b0 46 v) (h : DataW.Trod enc Tryz.prog w 0 (fun _ => true) held 46 v d p) (hz : ∀ n ∈ d.weights Tryz.prog 46, n ≤ reachBytes) : ∃ a ms N C, v = .slice a N C ∧ Ma w a ms N := by
 obtain ⟨a, len, cap, rfl⟩ := okWide_slice Tryz.underlying46 hv
 obtain ⟨fuel, hf⟩ := h
 rcases Deep.open_slice Tryz.underlying46 hf with ⟨hcs, _⟩ | ⟨a', len', cap', m, n, D, Pl, hcs, _, hl, hm, hmm, hxe, hx⟩
 ·simp [Value.cells] at hcs
  obtain ⟨rfl, rfl, rfl⟩ := hcs
  exact ⟨none, [], 0, 0, rfl, rfl, by omega, Or.inl rfl, fun m hm => by cases hm⟩
 ·simp [Value.cells] at hcs
  obtain ⟨rfl, rfl, rfl⟩ := hcs
  have hlm : len ≤ m := by rw [hmm]; split <;> omega
  have hlb : len ≤ 9223372036854775807 := by
   unfold maxLen at hm
   omega
  have hall : ∀ i, i < len → ∀ n ∈ (D i).weights Tryz.prog 53, n ≤ reachBytes := fun i hi n hn => hz n (by
   rw [(Prod.mk.inj hxe).1]
   simp only [DataW.weights, Tryz.underlying46]
   exact List.mem_cons_of_mem _ (List.mem_append_left _ (weights_all (List.mem_map.2 ⟨i, List.mem_range.2 hi, rfl⟩) n hn)))
  by_cases h0 : len = 0
  ·subst h0
   exact ⟨some a', [], 0, cap, rfl, rfl, by omega, Or.inl rfl, fun m hm => by cases hm⟩
  obtain ⟨b, off, spot⟩ := a'
  have each0 : ∀ i, i < len → ∃ m v0 v1 v2 v3 v4, Five w m v0 v1 v2 v3 v4 ∧ w.cell? ((⟨b, off, spot⟩ : Addr).add (i * 5) |>.add 0) = some v0 ∧ w.cell? ((⟨b, off, spot⟩ : Addr).add (i * 5) |>.add 1) = some v1 ∧ w.cell? ((⟨b, off, spot⟩ : Addr).add (i * 5) |>.add 2) = some v2 ∧ w.cell? ((⟨b, off, spot⟩ : Addr).add (i * 5) |>.add 3) = some v3 ∧ w.cell? ((⟨b, off, spot⟩ : Addr).add (i * 5) |>.add 4) = some v4 := by
   intro i hi
   obtain ⟨cs', h1, h2⟩ := hx i (by omega)
   rw [cells53m] at h1
   obtain ⟨_, hlen, hcell⟩ := World.cells?_some h1
   obtain ⟨m, v0, v1, v2, v3, v4, rfl, h5⟩ := open_member h2 hlen (hall i hi)
   have e0 := hcell 0 (by omega)
   have e1 := hcell 1 (by omega)
   have e2 := hcell 2 (by omega)
   have e3 := hcell 3 (by omega)
   have e4 := hcell 4 (by omega)
   exact ⟨m, v0, v1, v2, v3, v4, h5, by simpa using e0, by simpa using e1, by simpa using e2, by simpa using e3, by simpa using e4⟩
  have hs : spot = none := by
   obtain ⟨m, v0, v1, v2, v3, v4, _, g, _⟩ := each0 0 (by omega)
   simpa [Addr.add] using World.cell?_spot g
  subst hs
  have each : ∀ i, i < len → ∃ m : Mb, (∃ ea ec da dc pa pc, L1 w b (off + i * 5) m ea ec da dc pa pc) ∧ Mo0 m := by
   intro i hi
   obtain ⟨m, v0, v1, v2, v3, v4, h5, e0, e1, e2, e3, e4⟩ := each0 i hi
   obtain ⟨ea, ec, da, dc, pa, pc, rfl, rfl, rfl, rfl, rfl, q1, q2, q3⟩ := h5.ex
   rw [add_at, add_at] at e0 e1 e2 e3 e4
   exact ⟨m, ⟨ea, ec, da, dc, pa, pc, e0, e1, e2, e3, e4, q1, q2, q3⟩, h5.ok⟩
  haveI : Inhabited Mb := ⟨⟨[], [], false, [], []⟩⟩
  obtain ⟨Q, hQ⟩ := Deep.choose_lt each
  refine ⟨some ⟨b, off, none⟩, (List.range len).map Q, len, cap, rfl, by simp, hlb, Or.inr ⟨b, off, rfl, fun i x hx => ?_⟩, fun x hx => ?_⟩
  ·have hi : i < len := by have := (List.getElem?_eq_some_iff.1 hx).1; rwa [List.length_map, List.length_range] at this
   rw [List.getElem?_map, List.getElem?_range hi] at hx
   simp only [Option.map_some, Option.some.injEq] at hx
   subst hx
   exact (hQ i hi).1
  ·obtain ⟨i, hi, rfl⟩ := List.mem_map.1 hx
   exact (hQ i (List.mem_range.1 hi)).2
end
end Go.Proofs.YtogednaamndpgaaGreatDoor

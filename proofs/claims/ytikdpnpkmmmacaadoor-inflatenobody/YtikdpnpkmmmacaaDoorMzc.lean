/-
  Own texts of this seat, one behind the other: what each says stands ahead of it.
-/
import Derived.Test.YtikdpnpkmmmacaaDoorMs
import Derived.Test.YtikdpnpkmmmacaaDoorMzb
import Derived.ProofKit
import Derived.OpenShut
import Derived.Deep.SlicePairs
/-
  How an argument that is a list of blocks' plans (four cells each) is opened.
-/
namespace Go.Proofs.YtikdpnpkmmmacaaDoor
open Go.ChangeShapes Go.WideShapes Go.ChangeAt Go.RowKit
set_option linter.unusedVariables false
section
variable {H : Type} {enc : TypeId × Value → H} {P : Program} {w : World} {spare : Nat → Bool} {held : Bool}
theorem open_four {t e : TypeId} {f0 f1 f2 f3 : Field} {b0 : Nat} {r : Reach} {v : Value} {d : DataW H} {p : List MemPlace} (ht : P.underlying t = some (.slice e)) (he : P.underlying e = some (.struct #[f0, f1, f2, f3]))
    (ce : P.cellsOf e = 4) (o0 : f0.offset = 0) (o1 : f1.offset = 1) (o2 : f2.offset = 2) (o3 : f3.offset = 3) (c0 : P.cellsOf f0.type = 1) (c1 : P.cellsOf f1.type = 1) (c2 : P.cellsOf f2.type = 1) (c3 : P.cellsOf f3.type = 1)
    (u0 : P.underlying f0.type = some (.int .u8)) (u1 : P.underlying f1.type = some (.int .u16)) (u2 : P.underlying f2.type = some .bool) (u3 : P.underlying f3.type = some .bool)
    (hv : Value.okWide P w r b0 t v) (h : DataW.Trod enc P w 0 spare held t v d p) :
    (∃ a cap, v = .slice a 0 cap) ∨ ∃ (b off len cap : Nat) (Q : Nat → Pb), v = .slice (some ⟨b, off, none⟩) len cap ∧ 0 < len ∧ len ≤ maxLen ∧
      ∀ i, i < len → w.cell? ⟨b, off + i * 4, none⟩ = some (.int .u8 ((Q i).kd : Int)) ∧ w.cell? ⟨b, off + i * 4 + 1, none⟩ = some (.int .u16 ((Q i).by_ : Int)) ∧ w.cell? ⟨b, off + i * 4 + 2, none⟩ = some (.bool (Q i).cp) ∧ w.cell? ⟨b, off + i * 4 + 3, none⟩ = some (.bool (Q i).rn) ∧ (Q i).kd < 256 ∧ (Q i).by_ < 65536 := by
  obtain ⟨a, len, cap, rfl⟩ := okWide_slice ht hv
  obtain ⟨fuel, hf⟩ := h
  rcases Deep.open_slice ht hf with ⟨hcs, _⟩ | ⟨a', len', cap', m, n, D, Pl, hcs, _, hl, hm, hmm, _, hx⟩
  · simp [Value.cells] at hcs
    obtain ⟨rfl, rfl, rfl⟩ := hcs
    exact Or.inl ⟨_, _, rfl⟩
  · simp [Value.cells] at hcs
    obtain ⟨rfl, rfl, rfl⟩ := hcs
    have hlm : len ≤ m := by rw [hmm]; split <;> omega
    by_cases h0 : len = 0
    · subst h0; exact Or.inl ⟨_, _, rfl⟩
    right
    obtain ⟨b, off, spot⟩ := a'
    have each0 : ∀ i, i < len → ∃ v0 v1 v2 v3 y0 y1 y2 y3 k, w.cell? ((⟨b, off, spot⟩ : Addr).add (i * 4) |>.add 0) = some v0 ∧ w.cell? ((⟨b, off, spot⟩ : Addr).add (i * 4) |>.add 1) = some v1 ∧ w.cell? ((⟨b, off, spot⟩ : Addr).add (i * 4) |>.add 2) = some v2 ∧ w.cell? ((⟨b, off, spot⟩ : Addr).add (i * 4) |>.add 3) = some v3 ∧
        DataW.trod enc P w 0 spare held k f0.type [v0] = some y0 ∧ DataW.trod enc P w 0 spare held k f1.type [v1] = some y1 ∧ DataW.trod enc P w 0 spare held k f2.type [v2] = some y2 ∧ DataW.trod enc P w 0 spare held k f3.type [v3] = some y3 := by
      intro i hi
      obtain ⟨cs', h1, h2⟩ := hx i (by omega)
      rw [ce] at h1
      obtain ⟨_, hlen, hcell⟩ := World.cells?_some h1
      obtain ⟨xs, k, hk, hxy, _, hxl, hf⟩ := DataW.trod_struct he h2
      match xs, hxl, cs', hlen with
      | [y0, y1, y2, y3], _, [v0, v1, v2, v3], _ =>
        have g0 := hf 0 f0 rfl
        have g1 := hf 1 f1 rfl
        have g2 := hf 2 f2 rfl
        have g3 := hf 3 f3 rfl
        simp [o0, o1, o2, o3, c0, c1, c2, c3] at g0 g1 g2 g3
        have e0 := hcell 0 (by omega)
        have e1 := hcell 1 (by omega)
        have e2 := hcell 2 (by omega)
        have e3 := hcell 3 (by omega)
        exact ⟨v0, v1, v2, v3, y0, y1, y2, y3, k, by simpa using e0, by simpa using e1, by simpa using e2, by simpa using e3, g0, g1, g2, g3⟩
    have hs : spot = none := by
      obtain ⟨v0, v1, v2, v3, y0, y1, y2, y3, k, g, _⟩ := each0 0 (by omega)
      simpa [Addr.add] using World.cell?_spot g
    subst hs
    have ad : ∀ (o k : Nat), (⟨b, o, none⟩ : Addr).add k = ⟨b, o + k, none⟩ := fun o k => by
      unfold Addr.add
      split
      · simp_all
      · rfl
    have each : ∀ i, i < len → ∃ q : Pb, w.cell? ⟨b, off + i * 4, none⟩ = some (.int .u8 (q.kd : Int)) ∧ w.cell? ⟨b, off + i * 4 + 1, none⟩ = some (.int .u16 (q.by_ : Int)) ∧ w.cell? ⟨b, off + i * 4 + 2, none⟩ = some (.bool q.cp) ∧ w.cell? ⟨b, off + i * 4 + 3, none⟩ = some (.bool q.rn) ∧ q.kd < 256 ∧ q.by_ < 65536 := by
      intro i hi
      obtain ⟨v0, v1, v2, v3, y0, y1, y2, y3, k, e0, e1, e2, e3, g0, g1, g2, g3⟩ := each0 i hi
      obtain ⟨x, hx0, _, hw0⟩ := DataW.trod_int u0 g0
      obtain ⟨z, hz0, _, hw1⟩ := DataW.trod_int u1 g1
      obtain ⟨p2, hp2, _⟩ := DataW.trod_bool u2 g2
      obtain ⟨p3, hp3, _⟩ := DataW.trod_bool u3 g3
      simp only [List.cons.injEq, and_true] at hx0 hz0 hp2 hp3
      rw [hx0] at e0
      rw [hz0] at e1
      rw [hp2] at e2
      rw [hp3] at e3
      have hb0 := bounds_u8 hw0
      have hb1 := bounds_u16 hw1
      obtain ⟨xn, rfl⟩ : ∃ xn : Nat, x = (xn : Int) := ⟨x.toNat, by omega⟩
      obtain ⟨zn, rfl⟩ : ∃ zn : Nat, z = (zn : Int) := ⟨z.toNat, by omega⟩
      refine ⟨⟨xn, zn, p2, p3⟩, ?_, ?_, ?_, ?_, by show xn < 256; omega, by show zn < 65536; omega⟩
      · rw [ad, ad] at e0; exact e0
      · rw [ad, ad] at e1; exact e1
      · rw [ad, ad] at e2; exact e2
      · rw [ad, ad] at e3; exact e3
    haveI : Inhabited Pb := ⟨⟨0, 0, false, false⟩⟩
    obtain ⟨q, hq⟩ := Deep.choose_lt each
    exact ⟨b, off, len, cap, q, rfl, by omega, by omega, hq⟩
end
set_option maxRecDepth 100000 in
theorem oplan {H : Type} {enc : TypeId × Value → H} {w : World} {base : Nat} {v : Value} {d : DataW H} {p : List MemPlace} (o : Value.okWide Tryd.prog w .any base 46 v) (h : DataW.Trod enc Tryd.prog w 0 (fun _ => true) true 46 v d p) :
    ∃ (a : Option Addr) (ps : List Pb) (cap : Nat), v = .slice a ps.length cap ∧ ps.length ≤ maxLen ∧ Plan w a ps ∧ ∀ q ∈ ps, q.kd < 256 ∧ q.by_ < 65536 := by
  rcases open_four Tryd.underlying46 Tryd.underlying79 (by kernel_rfl) rfl rfl rfl rfl (by kernel_rfl) (by kernel_rfl) (by kernel_rfl) (by kernel_rfl) Tryd.underlying5 Tryd.underlying49 Tryd.underlying4 Tryd.underlying4 o h with ⟨a, cap, rfl⟩ | ⟨b, off, len, cap, Q, rfl, hp, hl, hc⟩
  · exact ⟨a, [], cap, rfl, Nat.zero_le _, Or.inl rfl, fun q hq => by cases hq⟩
  · refine ⟨some ⟨b, off, none⟩, (List.range len).map Q, cap, by rw [List.length_map, List.length_range], by rw [List.length_map, List.length_range]; exact hl, Or.inr ⟨b, off, rfl, fun i x hx => ?_⟩, fun q hq => ?_⟩
    · have hi : i < len := by have := (List.getElem?_eq_some_iff.1 hx).1; rwa [List.length_map, List.length_range] at this
      rw [List.getElem?_map, List.getElem?_range hi] at hx
      simp only [Option.map_some, Option.some.injEq] at hx
      subst hx
      have := hc i hi
      exact ⟨this.1, this.2.1, this.2.2.1, this.2.2.2.1⟩
    · obtain ⟨i, hi, rfl⟩ := List.mem_map.1 hq
      have := hc i (List.mem_range.1 hi)
      exact this.2.2.2.2
end Go.Proofs.YtikdpnpkmmmacaaDoor

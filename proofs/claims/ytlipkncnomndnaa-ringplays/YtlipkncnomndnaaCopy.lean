/-
  The builtin copy, into a block that is known whole, as a law for the walk: that block alone turns. And what it does to a list of bytes.
-/
import Derived.Test.YtlipkncnomndnaaRing
import Derived.Laws.CopyOwn
import Derived.OwnWalk
import Derived.WalkSpells
import Derived.WalkMore
namespace Go.Proofs.Ytlipkncnomndnaa
open Go.RowKit

theorem Only.setRow {b : Nat} {w u : World} (h : Only b w u) (cs : Array Value) : Only b w (u.setRow b cs) :=
  h.trans ⟨rfl, rfl, rfl, by simp, fun k hk => setRow_other u b k cs hk⟩
theorem vb_splice (l : List Int) (off : Nat) (cs : List Int) : splice (vb l) off (vb cs) = vb (splice l off cs) := by
  simp [splice, vb]
/-- Either nothing goes over, or the cells do. -/
theorem copy_run (w : World) (ty : TypeId) (dp sp : Option Addr) (dLen dCap sLen sCap : Nat) (g off : Nat) (l : List Int) (hg : Cells w g (vb l).toArray 5) (cs : List Int) (hn : cs.length = Nat.min sLen dLen)
    (hpos : 0 < cs.length → dp = some ⟨g, off, none⟩ ∧ ∃ ad, sp = some ad ∧ ∀ j z, cs[j]? = some z → w.cell? (ad.add j) = some (.int .u8 z)) (hfit : off + cs.length ≤ l.length) :
    ∃ w', (Builtin.copy_ #[35, 35] ty #[.slice dp dLen dCap, .slice sp sLen sCap]).run Try.prog w = .ok (goInt cs.length) w' ∧ Cells w' g (vb (splice l off cs)).toArray 5 ∧ Only g w w' := by
  by_cases h0 : cs.length = 0
  · obtain rfl : cs = [] := List.eq_nil_of_length_eq_zero h0
    refine ⟨w, run_copy_none (P := Try.prog) w 35 35 ty 5 dp sp dLen dCap sLen sCap Try.underlying35 size5 (by simpa using hn.symm), ?_, Only.refl _ _⟩
    simpa [splice] using hg
  · obtain ⟨rfl, ad, rfl, hsrc⟩ := hpos (by omega)
    have hr := run_copy_row (P := Try.prog) w 35 35 ty 5 g off dLen dCap ad sLen sCap (vb l).toArray 5 (vb cs) Try.underlying35 size5 hg (by rw [vb_length]; exact hn)
      (fun j v hv => by
        rw [vb_get] at hv
        cases hz : cs[j]? with
        | none => simp [hz] at hv
        | some z => simp [hz] at hv; rw [← hv]; exact hsrc j z hz) (by simpa [vb_length] using hfit) vb_one
    rw [vb_length] at hr
    refine ⟨_, hr, ?_, (Only.refl g w).setRow _⟩
    have := setRow_heap w g (vb l).toArray ((vb l).take off ++ vb cs ++ (vb l).drop (off + cs.length)).toArray 5 (0, 0) hg
    rw [← vb_splice]
    simpa [Cells, splice, vb_length] using this
theorem wpList_copy_only {w : World} {ops : Array Oper} {rest : List Oper} {o : Oper} {a : Act} {Q : Exit → Act → World → Prop} (hgd : o.guard = none) (d s : Operand)
    (ho : o.op = .call { callee := .builtin .copy, args := #[d, s], argTypes := #[35, 35] })
    (dp sp : Option Addr) (dLen dCap sLen sCap : Nat) (hd : a.eval d = .slice dp dLen dCap) (hs : a.eval s = .slice sp sLen sCap)
    (g off : Nat) (l : List Int) (hg : Cells w g (vb l).toArray 5) (cs : List Int) (hn : cs.length = Nat.min sLen dLen)
    (hpos : 0 < cs.length → dp = some ⟨g, off, none⟩ ∧ ∃ ad, sp = some ad ∧ ∀ j z, cs[j]? = some z → w.cell? (ad.add j) = some (.int .u8 z)) (hfit : off + cs.length ≤ l.length)
    (h : ∀ w', Cells w' g (vb (splice l off cs)).toArray 5 → Only g w w' → wpList Try.prog ops Q rest (a.put o.dst (goInt cs.length)) w') : wpList Try.prog ops Q (o :: rest) a w := by
  obtain ⟨w', hrun, h1, h2⟩ := copy_run w o.type dp sp dLen dCap sLen sCap g off l hg cs hn hpos hfit
  refine wpList_plain hgd fun K hK => ?_
  unfold Oper.wp
  simp [execOp, ho, resolve, invoke, builtin, hd, hs, hrun, Result.andThen]
  exact hK _ _ (h w' h1 h2)
theorem step_copy_only {ops : Array Oper} {o : Oper} {a : Act} {w : World} {K : Act → World → Prop} {Q : Exit → Act → World → Prop} {E : Prop} (hgd : o.guard = none) (d s : Operand)
    (ho : o.op = .call { callee := .builtin .copy, args := #[d, s], argTypes := #[35, 35] })
    (dp sp : Option Addr) (dLen dCap sLen sCap : Nat) (hd : a.eval d = .slice dp dLen dCap) (hs : a.eval s = .slice sp sLen sCap)
    (g off : Nat) (l : List Int) (hg : Cells w g (vb l).toArray 5) (cs : List Int) (hn : cs.length = Nat.min sLen dLen)
    (hpos : 0 < cs.length → dp = some ⟨g, off, none⟩ ∧ ∃ ad, sp = some ad ∧ ∀ j z, cs[j]? = some z → w.cell? (ad.add j) = some (.int .u8 z)) (hfit : off + cs.length ≤ l.length)
    (h : ∀ w', Cells w' g (vb (splice l off cs)).toArray 5 → Only g w w' → K (a.put o.dst (goInt cs.length)) w') :
    if Region.wanted o (yielded ops a.tmps) = true then Oper.wp Try.prog o a w K Q else E := by
  have hw : Region.wanted o (yielded ops a.tmps) = true := by simp [Region.wanted, hgd]
  rw [if_pos hw]
  obtain ⟨w', hrun, h1, h2⟩ := copy_run w o.type dp sp dLen dCap sLen sCap g off l hg cs hn hpos hfit
  unfold Oper.wp
  simp [execOp, ho, resolve, invoke, builtin, hd, hs, hrun, Result.andThen]
  exact h w' h1 h2
end Go.Proofs.Ytlipkncnomndnaa

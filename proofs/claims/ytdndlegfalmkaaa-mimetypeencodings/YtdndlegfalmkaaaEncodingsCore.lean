/-
  MimetypeEncodings' walk.
-/
import Derived.Test.YtdndlegfalmkaaaRen
namespace Go.Proofs.Ytdndlegfalmkaaa
open Go.RowKit
set_option linter.unusedVariables false
theorem encodings_core (l : List Nat) (ho : Oct l) (hl : l.length ≤ 140737488355328) (w : World) : Calls Try.prog 5 #[.string (st l)] w fun e w' => e = .returned (.bool true) ∧ Below w.heap.size w w' := by
  have h1 := enc_c l ho hl w
  have h2 := fun W => renc_c l ho hl W
  have h3 := fun W => awake_c W
  obtain ⟨E, hE⟩ : ∃ E, ec l = E := ⟨_, rfl⟩
  obtain ⟨s, hs⟩ : ∃ s, s = st l := ⟨_, rfl⟩
  rw [hE, ← hs] at h1 h2
  rw [← hs]
  clear hE hs ho hl
  go_enter Try.func5, Try.ntmps5
  go_wp2_with (first
    | (go_at_call 22; (with_reducible refine h1.mono ?_); rintro e1 w1 ⟨rfl, hb1⟩)
    | (go_at_call 23; (with_reducible refine (h2 _).mono ?_); rintro e2 w2 ⟨rfl, hb2⟩)
    | (go_at_call 16; (with_reducible refine (h3 _).mono ?_); rintro e3 w3 ⟨rfl, hb3⟩))
  go_ret
  have s1 := hb1.size
  have s2 := hb2.size
  exact ⟨rfl, (hb1.trans (hb2.mono (by omega))).trans (hb3.mono (by omega))⟩
end Go.Proofs.Ytdndlegfalmkaaa

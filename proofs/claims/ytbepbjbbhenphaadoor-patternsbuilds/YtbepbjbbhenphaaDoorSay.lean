/-
  What a machine and the document's machine say of any number, state or not: word, out, depth, fail, next: the same.
  Conditions: both machines lie in memory; the patterns lie in memory.
-/
import Derived.Test.YtbepbjbbhenphaaDoorRefMade
import Derived.Test.YtbepbjbbhenphaaDoorRefOut
import Derived.Test.YtbepbjbbhenphaaDoorBegins
namespace Go.Proofs.YtbepbjbbhenphaaDoor
open Go.RowKit
set_option linter.unusedVariables false
section
variable {Q N : Nat} {pa : Option Addr} {PL PC : Nat} {ws : List (List Nat)} {kids : List (List (Nat × Nat))}
theorem rword_no (s : Int) (w : World) (h : Rm w Q N pa PL PC ws kids) (hs : ¬ (0 ≤ s ∧ s < (N : Int))) :
    Calls Tryd.prog 21 #[.pointer (some ⟨Q, 0, none⟩), .int .i64 s] w fun e w' => e = .returned (.slice none 0 0) ∧ w = w' := by
  have hi := is_c s w h
  rw [decide_eq_false hs] at hi
  clear h hs
  go_enter Tryd.func21, Tryd.ntmps21
  go_wp2_with (go_at_call 39; refine hi.mono ?_; rintro e2 w2 ⟨rfl, rfl⟩)
  go_ret
  exact ⟨rfl, rfl⟩
set_option maxRecDepth 100000 in
theorem rword_c (s : Nat) (u : List Nat) (w : World) (h : Rm w Q N pa PL PC ws kids) (hs : ws[s]? = some u) :
    Calls Tryd.prog 21 #[.pointer (some ⟨Q, 0, none⟩), .int .i64 (s : Int)] w fun e w' => ∃ ai ci, e = .returned (.slice ai u.length ci) ∧ Lies w ai u ∧ w = w' := by
  have hsN : s < N := by have := at_lt hs; have := h.len; omega
  have hi := is_c (s : Int) w h
  rw [decide_eq_true ⟨by omega, by omega⟩] at hi
  obtain ⟨wa, wc, ka, kc, c0, c1, c2, hw, _⟩ := h.cells
  rcases hw with e | ⟨wb, wo, rfl, hc⟩
  · rw [e] at hs; simp at hs
  obtain ⟨ai, ci, e1, e2, e3, e4, e5⟩ := hc s u hs
  have hsi : (s : Int) < (N : Int) := by omega
  have AL : Aside (Lies w ai u) := e2
  obtain ⟨n, hn⟩ : ∃ n, u.length = n := ⟨_, rfl⟩
  rw [hn] at e1 ⊢
  clear h hs hc e2 e3 e4 e5 hsN c0 c2 hn
  go_enter Tryd.func21, Tryd.ntmps21
  go_wp2_with (go_at_call 39; refine hi.mono ?_; rintro e2 w2 ⟨rfl, rfl⟩)
  go_ret
  exact ⟨ai, ci, rfl, AL.out, rfl⟩
theorem rout_no (s : Int) (w : World) (h : Rm w Q N pa PL PC ws kids) (hs : ¬ (0 ≤ s ∧ s < (N : Int))) :
    Calls Tryd.prog 23 #[.pointer (some ⟨Q, 0, none⟩), .int .i64 s] w fun e w' => e = .returned (.slice none 0 0) ∧ w = w' := by
  have hi := is_c s w h
  rw [decide_eq_false hs] at hi
  clear h hs
  go_enter Tryd.func23, Tryd.ntmps23
  go_wp2_with (go_at_call 39; refine hi.mono ?_; rintro e2 w2 ⟨rfl, rfl⟩)
  go_ret
  exact ⟨rfl, rfl⟩
theorem rfail_no (s : Int) (w : World) (h : Rm w Q N pa PL PC ws kids) (hs : ¬ (0 < s ∧ s < (N : Int))) :
    Calls Tryd.prog 26 #[.pointer (some ⟨Q, 0, none⟩), .int .i64 s] w fun e w' => e = .returned (.int .i64 0) ∧ w = w' := by
  have hi := is_c s w h
  by_cases h0 : s = 0
  · subst h0
    have hN : 0 < N := by have := h.tri.pos; have := h.len; omega
    rw [decide_eq_true ⟨by omega, by omega⟩] at hi
    clear h hs hN
    go_enter Tryd.func26, Tryd.ntmps26
    go_wp2_with (go_at_call 39; refine hi.mono ?_; rintro e2 w2 ⟨rfl, rfl⟩)
    go_ret
    exact ⟨rfl, rfl⟩
  · rw [decide_eq_false (fun hh => hs ⟨by omega, hh.2⟩)] at hi
    clear h hs h0
    go_enter Tryd.func26, Tryd.ntmps26
    go_wp2_with (go_at_call 39; refine hi.mono ?_; rintro e2 w2 ⟨rfl, rfl⟩)
    go_ret
    exact ⟨rfl, rfl⟩
set_option maxRecDepth 100000 in
theorem rfail_c (s r : Nat) (u : List Nat) (w : World) (h : Rm w Q N pa PL PC ws kids) (hs : ws[s]? = some u) (h0 : 0 < s) (hu : u.length < 1000) (hr : ws[r]? = some (lsf ws u.tail)) :
    Calls Tryd.prog 26 #[.pointer (some ⟨Q, 0, none⟩), .int .i64 (s : Int)] w fun e w' => e = .returned (.int .i64 (r : Int)) ∧ w = w' := by
  have hsN : s < N := by have := at_lt hs; have := h.len; omega
  have hi := is_c (s : Int) w h
  rw [decide_eq_true ⟨by omega, by omega⟩] at hi
  obtain ⟨wa, wc, ka, kc, c0, c1, c2, hw, _⟩ := h.cells
  rcases hw with e | ⟨wb, wo, rfl, hc⟩
  · rw [e] at hs; simp at hs
  obtain ⟨ai, ci, e1, e2, e3, e4, e5⟩ := hc s u hs
  have hsi : (s : Int) < (N : Int) := by omega
  have hs0 : ¬ (s : Int) = 0 := by omega
  have hs0' : ((s : Int) == 0) = false := by rw [beq_eq_false_iff_ne]; exact hs0
  have hne : 1 ≤ u.length := by
    rcases u with _ | ⟨x, t⟩
    · have := h.tri.one hs h.tri.zero; omega
    · simp
  have hlong := rlongest_c ai u u.length ci 1 r w h e2 rfl e3 (by omega) (fun hh => (e5 hh).2) hne (by rw [List.drop_one]; exact hr)
  obtain ⟨n, hn⟩ : ∃ n, u.length = n := ⟨_, rfl⟩
  rw [hn] at e1 hlong
  clear h hs hc e2 e3 e4 e5 hsN c0 c2 hn h0 hu hr hne
  go_enter Tryd.func26, Tryd.ntmps26
  go_wp2_with (first | (go_at_call 39; refine hi.mono ?_; rintro e2 w2 ⟨rfl, rfl⟩) | (go_at_call 40; refine hlong.mono ?_; rintro e3 w3 ⟨rfl, rfl⟩))
  go_ret
  exact ⟨rfl, rfl⟩
end
theorem Own.none (w : World) : Own w w w.heap.size (.slice none 0 0) [] := ⟨⟨rfl, Or.inl ⟨rfl, rfl⟩⟩, Below.refl _ _, Nat.le_refl _⟩
theorem words_32 {ps : List (List Nat)} (hg : Good ps) {u : List Nat} (h : u ∈ words ps) : u.length ≤ 32 := by
  rcases words_mem_iff.1 h with rfl | ⟨p, hp, hpre⟩
  · simp
  · exact Nat.le_trans hpre.length_le (hg.len p hp).2
theorem endsOf_64 {ps : List (List Nat)} (hg : Good ps) (u : List Nat) : (endsOf ps u).length ≤ 64 ∧ ∀ x ∈ endsOf ps u, x < 64 := by
  unfold endsOf
  have h1 := hg.few
  refine ⟨?_, fun x hx => ?_⟩
  · have := List.length_filter_le (endsB ps u) (List.range ps.length)
    rw [List.length_range] at this; omega
  · have := List.mem_range.1 (List.mem_filter.1 hx).1; omega
/-- What both say of a number. -/
def Say (w4 : World) (A Q : Nat) (s : Int) (u E : List Nat) (f : Nat) : Prop := ∀ W, Below w4.heap.size w4 W →
  Calls Tryd.prog 18 #[.pointer (some ⟨A, 0, none⟩), .int .i64 s] W (fun e W' => e = .returned (.slice (some ⟨W.heap.size, 0, none⟩) u.length u.length) ∧ Bk W' W.heap.size u ∧ Below W.heap.size W W') ∧
  Calls Tryd.prog 19 #[.pointer (some ⟨A, 0, none⟩), .int .i64 s] W (fun e W' => ∃ v, e = .returned v ∧ Own W W' W.heap.size v E) ∧
  Calls Tryd.prog 21 #[.pointer (some ⟨Q, 0, none⟩), .int .i64 s] W (fun e W' => ∃ ai ci, e = .returned (.slice ai u.length ci) ∧ Lies W ai u ∧ W = W') ∧
  Calls Tryd.prog 23 #[.pointer (some ⟨Q, 0, none⟩), .int .i64 s] W (fun e W' => ∃ v, e = .returned v ∧ Own W W' W.heap.size v E) ∧
  Calls Tryd.prog 24 #[.pointer (some ⟨A, 0, none⟩), .int .i64 s] W (fun e W' => e = .returned (.int .i64 (u.length : Int)) ∧ W = W') ∧
  Calls Tryd.prog 25 #[.pointer (some ⟨A, 0, none⟩), .int .i64 s] W (fun e W' => e = .returned (.int .i64 (f : Int)) ∧ W = W') ∧
  Calls Tryd.prog 26 #[.pointer (some ⟨Q, 0, none⟩), .int .i64 s] W (fun e W' => e = .returned (.int .i64 (f : Int)) ∧ W = W')
theorem say_c {w4 : World} {base A Q L C lg N : Nat} {a : Option Addr} {ps : List (List Nat)} {nd : List Nd} {G : Nat → Nat → Option Nat} {kids : List (List (Nat × Nat))} (hm : Mach w4 base A L lg nd G) (hf : Full ps nd G) (hg : Good ps) (hr : Rm w4 Q N a L C (words ps) kids) (hT : Tab w4) (hp : Rows2 w4 a ps) (hL : ps.length = L) (s : Int) :
    ∃ (u E : List Nat) (f : Nat), u.length ≤ 32 ∧ E.length ≤ 64 ∧ (∀ x ∈ E, x < 64) ∧ (∀ x ∈ u, x < 256) ∧ Say w4 A Q s u E f := by
  have hN : nd.length = N := by rw [hf.laid.len]; exact hr.len
  by_cases hs : 0 ≤ s ∧ s < (N : Int)
  · obtain ⟨t, rfl⟩ : ∃ t : Nat, s = (t : Int) := ⟨s.toNat, by omega⟩
    obtain ⟨u, hu⟩ : ∃ u, (words ps)[t]? = some u := ⟨_, List.getElem?_eq_getElem (by have := hr.len; omega)⟩
    obtain ⟨n, hn⟩ := hf.laid.node hu
    have hfin := hf.fin hu hn
    have hu32 := words_32 hg (List.mem_of_getElem? hu)
    refine ⟨u, endsOf ps u, n.fa, hu32, (endsOf_64 hg u).1, (endsOf_64 hg u).2, hf.laid.oct u (List.mem_of_getElem? hu), fun W hW => ⟨?_, ?_, ?_, ?_, ?_, ?_, ?_⟩⟩
    · exact word_c t u u.length W (hm.below hW) hf.laid hu rfl (by omega)
    · have := out_c t n W (hm.below hW) hn hfin.2.1 (hT.below hW)
      rw [outs_of_fin hfin hg.few] at this
      exact this
    · exact rword_c t u W (hr.below hW) hu
    · exact rout_c t u W (hr.below hW) (hp.below hW) hL hg hu (by omega)
    · have := depth_c t n W (hm.below hW) hn
      rw [hf.laid.dp hu hn] at this
      exact this
    · exact fail_c t n W (hm.below hW) hn
    · by_cases h0 : 0 < t
      · exact rfail_c t n.fa u W (hr.below hW) hu h0 (by omega) hfin.1
      · have e0 : t = 0 := by omega
        subst e0
        have eu : [] = u := Option.some.inj (hf.laid.tri.zero.symm.trans hu)
        subst eu
        have hfa : n.fa = 0 := hf.laid.tri.one hfin.1 (by simpa [lsf] using hf.laid.tri.zero)
        rw [hfa]
        exact rfail_no _ W (hr.below hW) (fun h => by omega)
  · refine ⟨[], [], 0, by simp, by simp, by simp, by simp, fun W hW => ⟨?_, ?_, ?_, ?_, ?_, ?_, ?_⟩⟩
    · exact word_zero _ s W (depth_no s W (hm.below hW) (by rw [hN]; exact hs))
    · exact (out_no s W (hm.below hW) (by rw [hN]; exact hs)).mono fun e W' h => ⟨_, h.1, by rw [← h.2]; exact Own.none W⟩
    · exact (rword_no s W (hr.below hW) hs).mono fun e W' h => ⟨none, 0, h.1, Or.inl rfl, h.2⟩
    · exact (rout_no s W (hr.below hW) hs).mono fun e W' h => ⟨_, h.1, by rw [← h.2]; exact Own.none W⟩
    · exact depth_no s W (hm.below hW) (by rw [hN]; exact hs)
    · exact fail_no s W (hm.below hW) (by rw [hN]; exact hs)
    · exact rfail_no s W (hr.below hW) (fun h => hs ⟨by omega, h.2⟩)
theorem nxt_c {w4 : World} {base A Q L C lg N : Nat} {a : Option Addr} {ps : List (List Nat)} {nd : List Nd} {G : Nat → Nat → Option Nat} {kids : List (List (Nat × Nat))} (hm : Mach w4 base A L lg nd G) (hf : Full ps nd G) (hg : Good ps) (hr : Rm w4 Q N a L C (words ps) kids) (s : Int) (b : Nat) (hb : b < 256) :
    ∃ r : Nat, ∀ W, Below w4.heap.size w4 W → Calls Tryd.prog 27 #[.pointer (some ⟨A, 0, none⟩), .int .i64 s, .int .u8 (b : Int)] W (fun e W' => e = .returned (.int .i64 (r : Int)) ∧ W = W') ∧ Calls Tryd.prog 28 #[.pointer (some ⟨Q, 0, none⟩), .int .i64 s, .int .u8 (b : Int)] W (fun e W' => e = .returned (.int .i64 (r : Int)) ∧ Below W.heap.size W W') := by
  have hN : nd.length = N := by rw [hf.laid.len]; exact hr.len
  by_cases hs : 0 ≤ s ∧ s < (N : Int)
  · obtain ⟨t, rfl⟩ : ∃ t : Nat, s = (t : Int) := ⟨s.toNat, by omega⟩
    obtain ⟨u, hu⟩ : ∃ u, (words ps)[t]? = some u := ⟨_, List.getElem?_eq_getElem (by have := hr.len; omega)⟩
    obtain ⟨r, hr'⟩ := mem_at (lsf_mem hf.laid.tri.nil_mem (u ++ [b]))
    have hu32 := words_32 hg (List.mem_of_getElem? hu)
    refine ⟨r, fun W hW => ⟨?_, ?_⟩⟩
    · exact next_c t b r u W (hm.below hW) hf.laid hu hb (fun s u n h1 h2 _ => (hf.fin h1 h2).1) hr'
    · exact rnext_c t b r u W (hr.below hW) hu (by omega) hr'
  · refine ⟨0, fun W hW => ⟨next_no s b W (hm.below hW) N hN hs, (rnext_no s b W (hr.below hW) hs).mono fun e W' h => ⟨h.1, by rw [← h.2]; exact Below.refl _ _⟩⟩⟩
end Go.Proofs.YtbepbjbbhenphaaDoor

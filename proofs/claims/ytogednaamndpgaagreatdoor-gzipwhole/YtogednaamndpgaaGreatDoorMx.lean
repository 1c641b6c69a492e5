/-
  Own texts of this seat, one behind the other: what each says stands ahead of it.
-/
import Derived.Test.YtogednaamndpgaaGreatDoorMw
import Derived.Test.YtogednaamndpgaaGreatDoorMp
import Derived.Deep.AppendLies
import Derived.Deep.RegionLaw
import Derived.Test.YtogednaamndpgaaGreatDoorMs
/-
  The walker's calls, told of the machine: it has events to tell, behind which it stands at a state.
-/
namespace Go.Proofs.YtogednaamndpgaaGreatDoor
open Go.RowKit
set_option linter.unusedVariables false
section
variable {s : Gs} {x : Nat}
/-- What a step may tell. -/
def Gform (w : Nat) (r : Gs × List Evn) : Prop := (r.2 = [] ∧ r.1.nx ≠ 9) ∨ (∃ m, r.2 = [(256, m)] ∧ r.1.nx = 9 ∧ r.1.ip = [] ∧ r.1.y = c0 ∧ r.1.why = w) ∨ (r.2 = [(257, [])] ∧ r.1.nx = 12 ∧ r.1.why = w)
theorem form_opn (s : Gs) : Gform s.why (gopn s) := Or.inr (Or.inl ⟨_, rfl, rfl, rfl, rfl, rfl⟩)
theorem form_field (s : Gs) : Gform s.why (gfield s) := by
  unfold gfield
  split
  · exact Or.inl ⟨rfl, by simp⟩
  · split
    · exact Or.inl ⟨rfl, by simp⟩
    · split
      · exact Or.inl ⟨rfl, by simp⟩
      · split
        · exact Or.inl ⟨rfl, by simp⟩
        · exact form_opn s
theorem form_txt (h9 : s.nx ≠ 9) : Gform s.why (gtxt x s) := by
  unfold gtxt
  split
  · exact form_field (gcnt x s)
  · split
    · exact Or.inl ⟨rfl, h9⟩
    · exact Or.inl ⟨rfl, h9⟩
theorem gst_form (hn : s.nx ≤ 13) (h9 : s.nx ≠ 9) : Gform s.why (gst s x) := by
  have cases13 : s.nx = 0 ∨ s.nx = 1 ∨ s.nx = 2 ∨ s.nx = 3 ∨ s.nx = 4 ∨ s.nx = 5 ∨ s.nx = 6 ∨ s.nx = 7 ∨ s.nx = 8 ∨ s.nx = 10 ∨ s.nx = 11 ∨ s.nx = 12 ∨ s.nx = 13 := by omega
  rcases cases13 with e | e | e | e | e | e | e | e | e | e | e | e | e
  · have eg : gst s x = (if x = 31 then gbgn x s else gbad 40 s, []) := by unfold gst; rw [e]; rfl
    rw [eg]
    refine Or.inl ⟨rfl, ?_⟩
    show (if x = 31 then gbgn x s else gbad 40 s).nx ≠ 9
    split
    · simp [gbgn]
    · exact h9
  · have eg : gst s x = (if x = 139 then { gcnt x s with nx := 2 } else gbad 40 s, []) := by unfold gst; rw [e]; rfl
    rw [eg]
    refine Or.inl ⟨rfl, ?_⟩
    show (if x = 139 then { gcnt x s with nx := 2 } else gbad 40 s).nx ≠ 9
    split
    · simp
    · exact h9
  · have eg : gst s x = (if x = 8 then { gcnt x s with nx := 3 } else gbad 41 s, []) := by unfold gst; rw [e]; rfl
    rw [eg]
    refine Or.inl ⟨rfl, ?_⟩
    show (if x = 8 then { gcnt x s with nx := 3 } else gbad 41 s).nx ≠ 9
    split
    · simp
    · exact h9
  · have eg : gst s x = (if x < 32 then { gcnt x s with fl := x, nx := 4, lf := 6 } else gbad 42 s, []) := by unfold gst; rw [e]; rfl
    rw [eg]
    refine Or.inl ⟨rfl, ?_⟩
    show (if x < 32 then { gcnt x s with fl := x, nx := 4, lf := 6 } else gbad 42 s).nx ≠ 9
    split
    · simp
    · exact h9
  · have eg : gst s x = gany x s := by unfold gst; rw [e]; rfl
    rw [eg]
    unfold gany
    split
    · exact form_field { gcnt x s with lf := s.lf - 1 }
    · exact Or.inl ⟨rfl, h9⟩
  · have eg : gst s x = gext (gath x (gcnt x s)) := by unfold gst; rw [e]; rfl
    rw [eg]
    unfold gext
    split
    · split
      · exact Or.inl ⟨rfl, h9⟩
      · split
        · exact form_field (gath x (gcnt x s))
        · exact Or.inl ⟨rfl, by simp⟩
    · exact Or.inl ⟨rfl, h9⟩
  · have eg : gst s x = gtxt x (gnam x s) := by unfold gst; rw [e]; rfl
    rw [eg]
    have q : (gnam x s).why = s.why ∧ (gnam x s).nx = s.nx := by unfold gnam; split <;> exact ⟨rfl, rfl⟩
    have := form_txt (s := gnam x s) (x := x) (by rw [q.2]; exact h9)
    rwa [q.1] at this
  · have eg : gst s x = gtxt x s := by unfold gst; rw [e]; rfl
    rw [eg]
    exact form_txt h9
  · have eg : gst s x = ghsm (gath x s) := by unfold gst; rw [e]; rfl
    rw [eg]
    unfold ghsm
    split
    · split
      · exact form_opn (gath x s)
      · exact Or.inl ⟨rfl, h9⟩
    · exact Or.inl ⟨rfl, h9⟩
  · have eg : gst s x = gdsm (gath x s) := by unfold gst; rw [e]; rfl
    rw [eg]
    unfold gdsm
    split
    · split
      · exact Or.inl ⟨rfl, by simp⟩
      · exact Or.inl ⟨rfl, h9⟩
    · exact Or.inl ⟨rfl, h9⟩
  · have eg : gst s x = gdsz (gath x s) := by unfold gst; rw [e]; rfl
    rw [eg]
    unfold gdsz
    split
    · split
      · exact Or.inr (Or.inr ⟨rfl, rfl, rfl⟩)
      · exact Or.inl ⟨rfl, h9⟩
    · exact Or.inl ⟨rfl, h9⟩
  · have eg : gst s x = (if x = 31 then gbgn x s else { gnou x s with nx := 13 }, []) := by unfold gst; rw [e]; rfl
    rw [eg]
    refine Or.inl ⟨rfl, ?_⟩
    show (if x = 31 then gbgn x s else { gnou x s with nx := 13 }).nx ≠ 9
    split <;> simp [gbgn]
  · have eg : gst s x = (gnou x s, []) := by unfold gst; rw [e]; rfl
    rw [eg]
    refine Or.inl ⟨rfl, ?_⟩
    show (gnou x s).nx ≠ 9
    unfold gnou
    split <;> exact h9
end
section
variable {lo hi B D b R W A : Nat} {n I o : List Nat} {cf yF : Cfg} {q : Md} {s s1 : Gs} {c : Gc} {E : List Evn}
/-- The walker has E to tell, behind which it stands at s. -/
def Wz (w : World) (lo hi B D b R W A : Nat) (s : Gs) (E : List Evn) : Prop :=
  (E = [] ∧ ∃ I cf q, Wk w lo hi B D b R W A (gcof s none) s.nm I cf q ∧ (s.nx = 9 → s.why = 0 → I = s.ip ∧ q = .want ∧ cf.out = s.y.out)) ∨
  (∃ e, E = [e] ∧ (e.1 = 256 ∨ e.1 = 257) ∧ s.why = 0 ∧ ∃ I cf q, Wk w lo hi B D b R W A (gcof s (some e)) s.nm I cf q ∧ (s.nx = 9 → I = s.ip ∧ q = .want ∧ cf.out = s.y.out)) ∨
  (∃ x rest o l0 cf q, E = (x, []) :: rest.map (fun b => (b, [])) ∧ s.y.out = o ++ x :: rest ∧ s.nm = [] ∧ Stands s.ip MM s.y ∧ s.sm = sm 0 s.y.out ∧ s.gv = s.y.out.length ∧ s.nx = (if endC s.y then 10 else 9) ∧ s.lf = (if endC s.y then 4 else l0) ∧ s.why = badC s.y ∧ Wk w lo hi B D b R W A { gcof s (some (x, [])) with sm := sm 0 (o ++ [x]), gv := (o ++ [x]).length % 4294967296, nx := 141, lf := l0, why := 0 } [] s.ip cf q ∧ Pd (o ++ [x]) cf q)
theorem Wz.out {w u : World} (h : Wz w lo hi B D b R W A s E) (k : Below hi w u) (ht : ∀ i, i < w.heap.size → u.heap[i]? = w.heap[i]? ∨ ∃ cs ty fr, w.heap[i]? = some (.cells cs ty fr) ∧ (ty = 5 ∨ ty = 22 ∨ ty = 43)) : Wz u lo hi B D b R W A s E := by
  rcases h with ⟨h1, I, cf, q, h2, h3⟩ | ⟨e, h1, h2, h0, I, cf, q, h3, h4⟩ | ⟨x, rest, o, l0, cf, q, h1, h2, h3, h4, h5, h6, h7, h8, h9, h10, h11⟩
  · exact Or.inl ⟨h1, I, cf, q, h2.out k ht, h3⟩
  · exact Or.inr (Or.inl ⟨e, h1, h2, h0, I, cf, q, h3.out k ht, h4⟩)
  · exact Or.inr (Or.inr ⟨x, rest, o, l0, cf, q, h1, h2, h3, h4, h5, h6, h7, h8, h9, h10.out k ht, h11⟩)
theorem Wz.wk {w : World} (h : Wz w lo hi B D b R W A s E) : ∃ c n I cf q, Wk w lo hi B D b R W A c n I cf q := by
  rcases h with ⟨h1, I, cf, q, h2, h3⟩ | ⟨e, h1, h2, h0, I, cf, q, h3, h4⟩ | ⟨x, rest, o, l0, cf, q, h1, h2, h3, h4, h5, h6, h7, h8, h9, h10, h11⟩
  · exact ⟨_, _, _, _, _, h2⟩
  · exact ⟨_, _, _, _, _, h3⟩
  · exact ⟨_, _, _, _, _, h10⟩
theorem Wz.below {w u : World} {C : Nat} (h : Wz w lo hi B D b R W A s E) (k : Below C w u) (hC : w.heap.size ≤ C) : Wz u lo hi B D b R W A s E := by
  obtain ⟨_, _, _, _, _, hk⟩ := h.wk
  have := hk.hs
  exact h.out ⟨k.os, k.tape, k.output, k.size, fun i hi' => k.block i (by omega)⟩ fun i hi' => Or.inl (k.block i (by omega))
set_option maxHeartbeats 1000000 in
theorem deflated_c (x : Nat) (hx : x < 256) (w : World) (hw : Wk w lo hi B D b R W A (gcof s none) n s.ip cf .want) (ho : cf.out = s.y.out) (hsm : s.sm = sm 0 s.y.out) (hgv : s.gv = s.y.out.length) (h0 : s.why = 0) (hs : Stands (s.ip ++ [x]) MM yF) (hb : s.y.out.length + 1 < MM) : Calls Tryz.prog 141 #[.pointer (some ⟨W, 0, none⟩), .int .u8 (x : Int)] w fun e w' => e = .returned (.tuple #[]) ∧ Wa w' lo hi B D b R W A (gcof s none) n (s.ip ++ [x]) s.y.out yF ∧ Fw lo hi w w' := by
  have kp := put_any x hx w hw.inf (by rw [ho]; omega)
  rw [ho] at kp
  have ka := fun (X : World) (cf1 : Cfg) (q1 : Md) (h : Wk X lo hi B D b R W A (gcof s none) n (s.ip ++ [x]) cf1 q1) (hp : Pd s.y.out cf1 q1) => ask_c X h hp hsm (by show s.gv % 4294967296 = _; rw [hgv]) rfl h0 hs hb
  have d0 := hw.wc.a0
  have AW : Aside (Wk w lo hi B D b R W A (gcof s none) n s.ip cf .want) := hw
  clear hw ho hsm hgv h0 hs hb hx
  go_enter Tryz.func141, Tryz.ntmps141
  go_wp2_with (first
    | (go_at_call 144; refine kp.mono ?_; rintro e1 w1 ⟨rfl, f1, cf1, q1, i1, p1⟩)
    | (go_at_call 31; refine (ka _ cf1 q1 (AW.out.fm f1 i1) p1).mono ?_; rintro e2 w2 ⟨rfl, h2, f2⟩))
  first | go_end0 | (refine bodyPost_ret (results_none rfl _ _ _) rfl ?_)
  exact ⟨rfl, h2, (AW.out.ffm f1).trans f2⟩
theorem wp_wz {w : World} {r : Gs × List Evn} (h : Wp w lo hi B D b R W A r) (hf : Gform 0 r) : Wz w lo hi B D b R W A r.1 r.2 := by
  rcases h with ⟨h1, I, cf, q, h2⟩ | ⟨m, h1, h2⟩ | ⟨h1, I, cf, q, h2⟩
  · refine Or.inl ⟨h1, I, cf, q, h2, fun e => ?_⟩
    rcases hf with ⟨_, q2⟩ | ⟨m, q2, _⟩ | ⟨q2, _⟩
    · exact absurd e q2
    · rw [h1] at q2; cases q2
    · rw [h1] at q2; cases q2
  · rcases hf with ⟨q2, _⟩ | ⟨m', q2, q3, q4, q5, q6⟩ | ⟨q2, _⟩
    · rw [h1] at q2; cases q2
    · exact Or.inr (Or.inl ⟨(256, m), h1, Or.inl rfl, q6, [], c0, .want, h2, fun _ => ⟨q4.symm, rfl, by rw [q5]⟩⟩)
    · rw [h1] at q2; cases q2
  · rcases hf with ⟨q2, _⟩ | ⟨m', q2, _⟩ | ⟨q2, q3, q4⟩
    · rw [h1] at q2; cases q2
    · rw [h1] at q2; cases q2
    · exact Or.inr (Or.inl ⟨(257, []), h1, Or.inr rfl, q4, I, cf, q, h2, fun e => by rw [q3] at e; cases e⟩)
theorem wz_put (x : Nat) (hx : x < 256) (w : World) (hz : Wz w lo hi B D b R W A s []) (hok : Gok s) (h0 : s.why = 0) (hs : Sp s x s1 E) (hb : s.nx = 9 → s.y.out.length + 1 < MM) : Calls Tryz.prog 15 #[.pointer (some ⟨W, 0, none⟩), .int .u8 (x : Int)] w fun e w' => e = .returned (.bool true) ∧ Wz w' lo hi B D b R W A s1 E ∧ Fw lo hi w w' := by
  rcases hz with ⟨_, I, cf, q, hw, hd⟩ | ⟨e, h1, _⟩ | ⟨x, rest, o, l0, cf, q, h1, _⟩
  · rcases hs with ⟨h9, y, hy, rfl, rfl⟩ | ⟨h9, rfl, rfl⟩
    · obtain ⟨rfl, rfl, ho⟩ := hd h9 h0
      obtain ⟨d1, d2, d3, d4⟩ := hok.d9 h0 h9
      have hst := deflated_c x hx w hw ho d3 d4 h0 hy (hb h9)
      have e141 : (gcof s none).nx = 141 := by show pfn s.nx = 141; rw [h9]; rfl
      have key := wput_gen 141 (by simp) (fun w' => Wa w' lo hi B D b R W A (gcof s none) s.nm (s.ip ++ [x]) s.y.out y ∧ Fw lo hi w w') x w hw.wc e141 rfl h0 rfl hst
      have hnm := hok.ne (by omega)
      refine key.mono ?_
      rintro e w' ⟨rfl, hwa, hf⟩
      refine ⟨rfl, ?_, hf⟩
      rcases hwa with ⟨x0, rest, cf', q', a1, a2, a3⟩ | ⟨a1, cf', q', a2, a3, a4⟩
      · refine Or.inr (Or.inr ⟨x0, rest, s.y.out, s.lf, cf', q', ?_, a1, hnm, hy, rfl, rfl, rfl, rfl, rfl, ?_, a3⟩)
        · show (y.out.drop s.y.out.length).map _ = _
          rw [a1, List.drop_left]
          rfl
        · rw [hnm] at a2
          have ec : ({ gcof s none with sm := sm 0 (s.y.out ++ [x0]), gv := (s.y.out ++ [x0]).length % 4294967296, ev := some (x0, []) } : Gc) = { gcof (gdat s x y) (some (x0, [])) with sm := sm 0 (s.y.out ++ [x0]), gv := (s.y.out ++ [x0]).length % 4294967296, nx := 141, lf := s.lf, why := 0 } := by
            unfold gcof gdat
            simp only [h9, h0]
            rfl
          rw [ec] at a2
          exact a2
      · refine Or.inl ⟨?_, s.ip ++ [x], cf', q', ?_, fun e9 ew => ?_⟩
        · rw [a1, List.drop_length]; rfl
        · have ec : ({ gcof s none with nx := if endC y then 47 else (gcof s none).nx, lf := if endC y then 4 else (gcof s none).lf, why := badC y } : Gc) = gcof (gdat s x y) none := by
            unfold gcof gdat
            simp only [h9, d3, d4, a1]
            by_cases ee : endC y = true
            · simp only [if_pos ee]; rfl
            · simp only [if_neg ee]
          rw [ec] at a2
          exact a2
        · have e1 : ¬ endC y = true := fun q => by
            have : (if endC y then 10 else 9) = 9 := e9
            rw [if_pos q] at this; cases this
          have nov : ¬ Over y := by
            rintro (q | ⟨k, q⟩)
            · exact e1 (done_c3 q).1
            · have h1 : badC y = 0 := ew
              rw [(bad_c3 q).2.1] at h1
              exact bad_nz hy q h1
          exact ⟨rfl, a4 nov, a3.trans a1.symm⟩
    · have hst := step_no9 hok h0 h9 x hx w hw
      have key := wput_gen (pfn s.nx) (pfn_in s.nx) (fun w' => Wp w' lo hi B D b R W A (gst s x) ∧ Fw lo hi w w') x w hw.wc rfl rfl h0 rfl hst
      refine key.mono ?_
      rintro e w' ⟨rfl, hwp, hf⟩
      have hform := gst_form (x := x) hok.nx h9
      rw [h0] at hform
      exact ⟨rfl, wp_wz hwp hform, hf⟩
  · cases h1
  · cases h1
theorem wz_next (e : Evn) (w : World) (hz : Wz w lo hi B D b R W A s (e :: E)) (hb : s.y.out.length + 1 < MM + E.length) : Calls Tryz.prog 20 #[.pointer (some ⟨W, 0, none⟩)] w fun r w' => r = .returned (.tuple #[.agg (gevv e.1 e.2), .bool true]) ∧ Wz w' lo hi B D b R W A s E ∧ Fw lo hi w w' := by
  rcases hz with ⟨h1, _⟩ | ⟨e', h1, h2, h0, I, cf, q, h3, h4⟩ | ⟨x, rest, o, l0, cf, q, h1, h2, h3, h4, h5, h6, h7, h8, h9, h10, h11⟩
  · cases h1
  · obtain ⟨rfl, rfl⟩ := List.cons.inj h1
    have key : Calls Tryz.prog 20 #[.pointer (some ⟨W, 0, none⟩)] w fun r w' => r = .returned (.tuple #[.agg (gevv e.1 e.2), .bool true]) ∧ Wk w' lo hi B D b R W A { gcof s (some e) with ev := none } s.nm I cf q ∧ Fw lo hi w w' := by
      rcases h2 with q2 | q2
      · exact wnext_one e 1 0 2 (by rw [q2]; rfl) (by rw [q2]; rfl) (by rw [q2]; rfl) rfl rfl w h3 rfl
      · exact wnext_one e 3 0 0 (by rw [q2]; rfl) (by rw [q2]; rfl) (by rw [q2]; rfl) rfl rfl w h3 rfl
    exact key.mono fun r w' ⟨k1, k2, k3⟩ => ⟨k1, Or.inl ⟨rfl, I, cf, q, k2, fun e _ => h4 e⟩, k3⟩
  · obtain ⟨rfl, rfl⟩ := List.cons.inj h1
    have hx : x < 256 := h4.oct x (by rw [h2]; simp)
    have hle : (o ++ [x]).length + 1 < MM := by
      rw [h2] at hb
      simp only [List.length_append, List.length_cons, List.length_map, List.length_nil] at hb ⊢
      omega
    have key := wnext_byte (x, []) (x : Int) 0 (by show gk1 x = 2; unfold gk1; rw [if_neg (by omega), if_neg (by omega)]) (by show gk2 x = _; unfold gk2; rw [if_pos hx]) (by show gk3 x = 0; unfold gk3; rw [if_neg (by omega)]) w h10 rfl h11 rfl rfl rfl h4 hle
    refine key.mono ?_
    rintro r w' ⟨k1, k2, k3⟩
    refine ⟨k1, ?_, k3⟩
    rcases k2 with ⟨x', rest', cf', q', a1, a2, a3⟩ | ⟨a1, cf', q', a2, a3, a4⟩
    · have er : rest = x' :: rest' := by
        rw [h2, List.append_assoc] at a1
        have := List.append_cancel_left a1
        simpa using this
      refine Or.inr (Or.inr ⟨x', rest', o ++ [x], l0, cf', q', by rw [er]; rfl, a1, h3, h4, h5, h6, h7, h8, h9, a2, a3⟩)
    · have er : rest = [] := by
        have a5 := a1
        rw [h2] at a5
        have := List.append_cancel_left a5
        simpa using this
      refine Or.inl ⟨by rw [er]; rfl, s.ip, cf', q', ?_, fun e9 ew => ⟨rfl, a4 ?_, a3.trans a1.symm⟩⟩
      · rw [h3]
        have es : sm 0 (o ++ [x]) = s.sm := by rw [h5, a1]
        have eg : (o ++ [x]).length % 4294967296 = s.gv % 4294967296 := by rw [h6, a1]
        have en : (if endC s.y then 47 else 141) = pfn s.nx := by rw [h7]; split <;> rfl
        have ec : ({ gcof s none with sm := sm 0 (o ++ [x]), gv := (o ++ [x]).length % 4294967296, nx := if endC s.y then 47 else 141, lf := if endC s.y then 4 else l0, why := badC s.y } : Gc) = gcof s none := by
          rw [es, eg, en, ← h8, ← h9]
          rfl
        have a2' : Wk w' lo hi B D b R W A { gcof s none with sm := sm 0 (o ++ [x]), gv := (o ++ [x]).length % 4294967296, nx := if endC s.y then 47 else 141, lf := if endC s.y then 4 else l0, why := badC s.y } [] s.ip cf' q' := a2
        rw [ec] at a2'
        exact a2'
      · rintro (q | ⟨k, q⟩)
        · rw [h7, (done_c3 q).1] at e9; cases e9
        · rw [h9, (bad_c3 q).2.1] at ew
          exact bad_nz h4 q ew
theorem wz_next_no (w : World) (hz : Wz w lo hi B D b R W A s []) : Calls Tryz.prog 20 #[.pointer (some ⟨W, 0, none⟩)] w fun r w' => r = .returned (.tuple #[.agg z5, .bool false]) ∧ Wz w' lo hi B D b R W A s [] ∧ Below w.heap.size w w' := by
  rcases hz with ⟨h1, I, cf, q, h2, h3⟩ | ⟨e, h1, _⟩ | ⟨x, rest, o, l0, cf, q, h1, _⟩
  · exact (wnext_no w h2 rfl).mono fun r w' ⟨k1, k2, k3⟩ => ⟨k1, Or.inl ⟨h1, I, cf, q, k2, h3⟩, k3⟩
  · cases h1
  · cases h1
theorem wz_put_no (x : Nat) (w : World) (hz : Wz w lo hi B D b R W A s E) (hn : E ≠ [] ∨ s.why ≠ 0) : Calls Tryz.prog 15 #[.pointer (some ⟨W, 0, none⟩), .int .u8 (x : Int)] w fun e w' => e = .returned (.bool false) ∧ w = w' := by
  rcases hz with ⟨h1, I, cf, q, h2, h3⟩ | ⟨e, h1, h2, h0, I, cf, q, h3, h4⟩ | ⟨x, rest, o, l0, cf, q, h1, h2, h3, h4, h5, h6, h7, h8, h9, h10, h11⟩
  · exact wput_no x w h2.wc (Or.inr (Or.inl (by rcases hn with q | q; exact absurd h1 q; exact q)))
  · exact wput_no x w h3.wc (Or.inl (by show some e ≠ none; simp))
  · exact wput_no _ w h10.wc (Or.inl (by show some _ ≠ none; simp))
/-- What is told as the reason. -/
def zwhy (s : Gs) : List Evn → Nat
  | [] => s.why
  | _ :: _ => 0
theorem wz_reason (w : World) (hz : Wz w lo hi B D b R W A s E) : Calls Tryz.prog 18 #[.pointer (some ⟨W, 0, none⟩)] w fun e w' => e = .returned (.int .i64 (zwhy s E : Int)) ∧ w = w' := by
  rcases hz with ⟨rfl, I, cf, q, h2, h3⟩ | ⟨e, rfl, h2, h0, I, cf, q, h3, h4⟩ | ⟨x, rest, o, l0, cf, q, rfl, h2, h3, h4, h5, h6, h7, h8, h9, h10, h11⟩
  · exact wreason_c w h2.wc
  · have := wreason_c w h3.wc
    rw [show (gcof s (some e)).why = 0 from h0] at this
    exact this
  · exact wreason_c w h10.wc
/-- The end: what it comes to. -/
def zfin (s : Gs) : Nat := if s.why ≠ 0 then s.why else if s.wh = true then 0 else 1
/-- The walker was told the end. -/
def We (w : World) (lo hi B D b R W A : Nat) (y : Nat) : Prop := ∃ c n I cf q, Wk w lo hi B D b R W A c n I cf q ∧ c.ev = none ∧ c.why = y ∧ (c.why ≠ 0 ∨ c.en = true)
theorem wz_end (w : World) (hz : Wz w lo hi B D b R W A s []) : Calls Tryz.prog 19 #[.pointer (some ⟨W, 0, none⟩)] w fun e w' => e = .returned (.tuple #[]) ∧ We w' lo hi B D b R W A (zfin s) ∧ Fw lo hi w w' := by
  rcases hz with ⟨h1, I, cf, q, h2, h3⟩ | ⟨e, h1, _⟩ | ⟨x, rest, o, l0, cf, q, h1, _⟩
  · unfold zfin
    by_cases h0 : s.why = 0
    · rw [if_neg (fun q => q h0)]
      exact (wend_yes w h2 rfl h0 rfl _ rfl).mono fun e w' ⟨k1, k2, k3⟩ => ⟨k1, ⟨_, _, _, _, _, k2, rfl, rfl, Or.inr rfl⟩, k3⟩
    · rw [if_pos h0]
      exact (wend_no w h2.wc (Or.inr (Or.inl h0))).mono fun e w' ⟨k1, k2⟩ => by
        subst k2
        exact ⟨k1, ⟨_, _, _, _, _, h2, rfl, rfl, Or.inl h0⟩, Fw.refl _ _ _⟩
  · cases h1
  · cases h1
theorem we_reason {y : Nat} (w : World) (h : We w lo hi B D b R W A y) : Calls Tryz.prog 18 #[.pointer (some ⟨W, 0, none⟩)] w fun e w' => e = .returned (.int .i64 (y : Int)) ∧ w = w' := by
  obtain ⟨c, n, I, cf, q, h1, h2, rfl, h4⟩ := h
  exact wreason_c w h1.wc
theorem we_put {y : Nat} (x : Nat) (w : World) (h : We w lo hi B D b R W A y) : Calls Tryz.prog 15 #[.pointer (some ⟨W, 0, none⟩), .int .u8 (x : Int)] w fun e w' => e = .returned (.bool false) ∧ w = w' := by
  obtain ⟨c, n, I, cf, q, h1, h2, h3, h4⟩ := h
  exact wput_no x w h1.wc (Or.inr h4)
theorem we_next {y : Nat} (w : World) (h : We w lo hi B D b R W A y) : Calls Tryz.prog 20 #[.pointer (some ⟨W, 0, none⟩)] w fun r w' => r = .returned (.tuple #[.agg z5, .bool false]) ∧ We w' lo hi B D b R W A y ∧ Below w.heap.size w w' := by
  obtain ⟨c, n, I, cf, q, h1, h2, h3, h4⟩ := h
  exact (wnext_no w h1 h2).mono fun r w' ⟨k1, k2, k3⟩ => ⟨k1, ⟨c, n, I, cf, q, k2, h2, h3, h4⟩, k3⟩
theorem wz_reset (w : World) (hz : Wz w lo hi B D b R W A s E) : Calls Tryz.prog 16 #[.pointer (some ⟨W, 0, none⟩)] w fun e w' => e = .returned (.tuple #[]) ∧ Wz w' lo hi B D b R W A s0 [] ∧ Fw lo hi w w' := by
  obtain ⟨c, n, I, cf, q, h⟩ := hz.wk
  exact (wreset_c w h).mono fun e w' ⟨k1, k2, k3⟩ => ⟨k1, Or.inl ⟨rfl, I, cf, q, k2, fun e => by cases e⟩, k3⟩
theorem wz_new (w : World) (ht : Tabs w) (hc : Ctab w) (h8 : 8 ≤ w.heap.size) : Calls Tryz.prog 14 #[] w fun e w' => ∃ B W A, e = .returned (.pointer (some ⟨W, 0, none⟩)) ∧ Wz w' w.heap.size (W + 1) B (B + 3) (B + 2) (B + 1) W A s0 [] ∧ Below w.heap.size w w' :=
  (wnew_c w ht hc h8).mono fun e w' ⟨B, W, A, k1, k2, k3⟩ => ⟨B, W, A, k1, Or.inl ⟨rfl, [], c0, .want, k2, fun e => by cases e⟩, k3⟩
end
end Go.Proofs.YtogednaamndpgaaGreatDoor

/-
  Lists of lists of bytes, of the call's own: the members as they are gathered.
-/
namespace Go.Proofs.YtogednaamndpgaaGreatDoor
open Go.RowKit
set_option linter.unusedVariables false
theorem ginfo22 : (Tryz.prog.info? 22).map (fun i => (i.zero, i.size, i.bytes)) = some (some (.slice none 0 0), 1, 24) := by kernel_rfl
/-- Parts out of signs. -/
def po : List (List Nat) → List Nat → List (List Nat)
  | ls, [] => ls
  | ls, g :: r => if g = 256 then po (ls ++ [[]]) r else if g = 257 then po ls r else po (ls.dropLast ++ [ls.getLastD [] ++ [g]]) r
/-- Bytes come behind an open part alone. -/
def Gd : Bool → List Nat → Prop
  | _, [] => True
  | i, g :: r => if g = 256 then Gd true r else if g = 257 then Gd i r else i = true ∧ Gd i r
/-- A list of lists of bytes, of the call's own, in blocks from lo on; the last one's block is no other one's. -/
structure Ll (w : World) (lo : Nat) (v : Value) (ls : List (List Nat)) : Prop where
  ex : ∃ vs : List Value, vs.length = ls.length ∧ Ow w lo 22 1 v ls.length vs ∧ (∀ (i : Nat) (a : Value) (l : List Nat), vs[i]? = some a → ls[i]? = some l → Ow w lo 5 1 a l.length (ob l)) ∧ ∀ (i : Nat) (a z : Value), vs[i]? = some a → i + 1 < vs.length → vs.getLast? = some z → ∀ g, a.ownBlock = some g → z.ownBlock ≠ some g
theorem Ll.nil {w : World} {lo : Nat} (h : lo ≤ w.heap.size) : Ll w lo (.slice none 0 0) [] := ⟨[], rfl, Ow.nil h, fun i a l h => by simp at h, fun i a z h => by simp at h⟩
theorem Ll.keep {w u : World} {lo : Nat} {v : Value} {ls : List (List Nat)} (h : Ll w lo v ls) (hs : w.heap.size ≤ u.heap.size) (k : ∀ g, lo ≤ g → g < w.heap.size → (∃ cs e fr, w.heap[g]? = some (.cells cs e fr) ∧ (e = 5 ∨ e = 22)) → u.heap[g]? = w.heap[g]?) : Ll u lo v ls := by
  obtain ⟨vs, h1, h2, h3, h4⟩ := h.ex
  exact ⟨vs, h1, h2.keep hs (fun g a b ⟨cs, fr, c⟩ => k g a b ⟨cs, 22, fr, c, Or.inr rfl⟩), fun i a l ha hl => (h3 i a l ha hl).keep hs (fun g a b ⟨cs, fr, c⟩ => k g a b ⟨cs, 5, fr, c, Or.inl rfl⟩), h4⟩
theorem Ll.below {w u : World} {lo C : Nat} {v : Value} {ls : List (List Nat)} (h : Ll w lo v ls) (k : Below C w u) (hC : w.heap.size ≤ C) : Ll u lo v ls := h.keep k.size fun g _ h2 _ => k.block g (by omega)
theorem Ll.drewN {w : World} {lo : Nat} {v : Value} {ls : List (List Nat)} (h : Ll w lo v ls) (n : Nat) : Ll (w.drewN n) lo v ls := h.keep (Nat.le_refl _) fun _ _ _ _ => rfl
theorem Ll.but {w u : World} {lo M : Nat} {v : Value} {ls : List (List Nat)} {cs : Array Value} {t : TypeId} (h : Ll w lo v ls) (k : But M w u) (hM : Cells w M cs t) (ht : t ≠ 5 ∧ t ≠ 22) : Ll u lo v ls := h.keep k.size fun g _ h2 ⟨cs', e, fr, hc, he⟩ => k.block g h2 (fun e2 => by
  subst e2
  unfold Cells at hM
  rw [hM] at hc
  cases hc
  rcases he with rfl | rfl
  · exact ht.1 rfl
  · exact ht.2 rfl)
theorem Ll.le {w : World} {lo : Nat} {v : Value} {ls : List (List Nat)} (h : Ll w lo v ls) : lo ≤ w.heap.size := by obtain ⟨vs, _, h2, _⟩ := h.ex; exact h2.le
theorem Ll.shape {w : World} {lo : Nat} {v : Value} {ls : List (List Nat)} (h : Ll w lo v ls) : ∃ a c, v = .slice a ls.length c ∧ ls.length ≤ c := by
  obtain ⟨vs, _, h2, _⟩ := h.ex
  obtain ⟨a, c, hv, hc, _⟩ := h2.shape
  exact ⟨a, c, hv, hc⟩
/-- One more part. -/
theorem Ll.open_ {w u : World} {lo : Nat} {v v' : Value} {ls : List (List Nat)} (h : Ll w lo v ls) (vs : List Value) (k : Got lo 22 1 w u v v' (ls.length + 1) (vs ++ [.slice none 0 0])) (hvs : vs.length = ls.length) (h3 : ∀ (i : Nat) (a : Value) (l : List Nat), vs[i]? = some a → ls[i]? = some l → Ow w lo 5 1 a l.length (ob l)) : Ll u lo v' (ls ++ [[]]) := by
  refine ⟨vs ++ [.slice none 0 0], by simp [hvs], by simpa using k.ow, fun i a l ha hl => ?_, fun i a z ha hi hz g hg => ?_⟩
  · by_cases hlt : i < vs.length
    · rw [List.getElem?_append_left hlt] at ha
      rw [List.getElem?_append_left (by omega)] at hl
      exact (h3 i a l ha hl).got k (by decide)
    · have hi : i = vs.length := by
        have := (List.getElem?_eq_some_iff.1 ha).1
        simp at this
        omega
      subst hi
      rw [List.getElem?_append_right (by omega)] at ha
      rw [List.getElem?_append_right (by omega)] at hl
      simp [hvs] at ha hl
      subst hl
      rw [← ha]
      exact Ow.nil k.ow.le
  · rw [List.getLast?_append] at hz
    simp at hz
    rw [← hz]
    simp [Value.ownBlock]
theorem Ow.keep1 {w u : World} {lo sz n : Nat} {e : TypeId} {v : Value} {l : List Value} (h : Ow w lo e sz v n l) (hs : w.heap.size ≤ u.heap.size) (k : ∀ g, v.ownBlock = some g → u.heap[g]? = w.heap[g]?) : Ow u lo e sz v n l := by
  refine ⟨⟨h.own.1, ?_⟩, Nat.le_trans h.le hs⟩
  rcases h.own.2 with q | ⟨g, c, cur, hv, hg, hh, q⟩
  · exact Or.inl q
  · exact Or.inr ⟨g, c, cur, hv, hg, (k g (by rw [hv]; rfl)).trans hh, q⟩
/-- What an append to the last part's bytes comes to, ahead of its being laid back. -/
structure Gob (lo : Nat) (w w' : World) (a a' : Value) (n : Nat) (l : List Nat) : Prop where
  got : Got lo 5 1 w w' a a' n (ob l)
  blk : ∀ g, a'.ownBlock = some g → a.ownBlock = some g ∨ g = w.heap.size
theorem Ow.set_at {w : World} {lo n i g : Nat} {e : TypeId} {a : Option Addr} {c : Nat} {xs : List Value} (h : Ow w lo e 1 (.slice (some ⟨g, 0, none⟩) n c) n xs) (x : Value) (hi : i < n) (h1 : x.oneCell' = true) : Ow (w.setCell ⟨g, i, none⟩ x) lo e 1 (.slice (some ⟨g, 0, none⟩) n c) n (xs.set i x) := by
  have hl := h.own.1
  refine ⟨⟨by simpa using hl, ?_⟩, by simpa [World.setCell] using h.le⟩
  rcases h.own.2 with ⟨hv, h0⟩ | ⟨g', c', cur, hv, hg, hh, hc, hm, hs, ht⟩
  · cases hv
  · cases hv
    refine Or.inr ⟨g, c, cur.setIfInBounds i x, rfl, hg, ?_, hc, hm, by simpa using hs, ?_⟩
    · simp [World.setCell, Array.getElem?_modify, hh]
    · rw [Array.toList_setIfInBounds, List.take_set, ht]
theorem Ll.byte {w u : World} {lo n g c x : Nat} {ls : List (List Nat)} {l : List Nat} {vs : List Value} {a a' : Value} (h : Ll w lo (.slice (some ⟨g, 0, none⟩) (n + 1) c) ls) (hls : ls.length = n + 1) (hvs : vs.length = n + 1) (hl : ls[n]? = some l)
    (h2 : Ow w lo 22 1 (.slice (some ⟨g, 0, none⟩) (n + 1) c) (n + 1) vs) (h3 : ∀ (i : Nat) (a : Value) (l : List Nat), vs[i]? = some a → ls[i]? = some l → Ow w lo 5 1 a l.length (ob l)) (h4 : ∀ (i : Nat) (a z : Value), vs[i]? = some a → i + 1 < vs.length → vs.getLast? = some z → ∀ g, a.ownBlock = some g → z.ownBlock ≠ some g)
    (ha : vs[n]? = some a) (k : Gob lo w u a a' (l.length + 1) (l ++ [x])) (h1 : a'.oneCell' = true) : Ll (u.setCell ⟨g, n, none⟩ a') lo (.slice (some ⟨g, 0, none⟩) (n + 1) c) (ls.dropLast ++ [l ++ [x]]) := by
  have hlast : vs.getLast? = some a := by rw [List.getLast?_eq_getElem?, hvs, Nat.add_sub_cancel, ha]
  have hu := h2.got k.got (by decide)
  have hset := Ow.set_at (a := none) hu a' (i := n) (by omega) h1
  have kg : ∃ cs, u.heap[g]? = some (.cells cs 22 (0, 0)) := by
    rcases hu.own.2 with ⟨hv, h0⟩ | ⟨g', c', cur, hv, hg, hh, _⟩
    · cases hv
    · cases hv; exact ⟨_, hh⟩
  obtain ⟨cg, hcg⟩ := kg
  have hdl : ls.dropLast.length = n := by simp [hls]
  refine ⟨vs.set n a', by simp [hvs, hls], by simpa [hls] using hset, fun i b m hb hm => ?_, fun i b z hb hi hz gb hgb => ?_⟩
  · by_cases hin : i = n
    · rw [hin, List.getElem?_set_self (by omega)] at hb
      rw [hin, List.getElem?_append_right (by omega), hdl] at hm
      simp at hb hm
      subst hb hm
      have := k.got.ow.set (i := n) (x := a') (b := g) (cs := cg) (t := 22) hcg (by decide)
      simpa using this
    · rw [List.getElem?_set_ne (Ne.symm hin)] at hb
      have hilt : i < n := by have := (List.getElem?_eq_some_iff.1 hb).1; omega
      rw [List.getElem?_append_left (by omega), List.getElem?_dropLast, if_pos (by omega)] at hm
      have ho := h3 i b m hb hm
      refine (ho.keep1 k.got.size (fun gg hgg => ?_)).set (b := g) (cs := cg) (t := 22) hcg (by decide)
      exact k.got.kb gg (ho.lt_block hgg).2 (fun e => h4 i b a hb (by omega) hlast gg hgg e.symm)
  · rw [List.length_set] at hi
    have hin : i ≠ n := by omega
    rw [List.getElem?_set_ne (Ne.symm hin)] at hb
    have hz2 : z = a' := by
      rw [List.getLast?_eq_getElem?, List.length_set, hvs, Nat.add_sub_cancel, List.getElem?_set_self (by omega)] at hz
      simpa using hz.symm
    rw [hz2]
    intro e
    have hilt : i < n := by omega
    obtain ⟨m, hm⟩ : ∃ m, ls[i]? = some m := ⟨_, List.getElem?_eq_getElem (by omega)⟩
    rcases k.blk gb e with h5 | h5
    · exact h4 i b a hb (by omega) hlast gb hgb h5
    · have := ((h3 i b m hb hm).lt_block hgb).2
      omega
theorem step_gob {w : World} {ops : Array Oper} {o : Oper} {a : Act} {K : Act → World → Prop} {Q : Exit → Act → World → Prop} {E : Prop} (hgd : o.guard = none) (s x : Operand)
    (ho : o.op = .call { callee := .builtin .append, args := #[s, x], argTypes := #[22, 22] }) (lo : Nat) (v : Value) (k : Nat) (l : List Nat) (hs : a.eval s = v) (hown : Ow w lo 5 1 v k (ob l)) (hk : l.length = k)
    (b c y : Nat) (hx : a.eval x = .slice (some ⟨b, 0, none⟩) 1 c) (hl : w.cell? ⟨b, 0, none⟩ = some (.int .u8 (y : Int))) (hlen : k + 1 ≤ 140737488355328)
    (h : ∀ g cap w', Gob lo w w' v (.slice (some ⟨g, 0, none⟩) (k + 1) cap) (k + 1) (l ++ [y]) → K (a.put o.dst (.slice (some ⟨g, 0, none⟩) (k + 1) cap)) w') :
    if Region.wanted o (yielded ops a.tmps) = true then Oper.wp Tryz.prog o a w K Q else E := by
  obtain ⟨i, hi, hz0, hz1, hz2⟩ := ginfo_parts ginfo5
  refine step_append_lies w hgd s x 22 ho lo 5 i _ 1 1 Tryz.underlying22 hi hz0 hz1 hz2 rfl (by decide) v _ _ hs hown.own ⟨b, 0, none⟩ 1 c (ob [y]) hx (by rfl) (fun j u hj => ?_) ob_one (by decide) (by unfold maxLen; omega) (by omega) hown.le _ rfl fun g cap w' h2 h3 h4 _ => h g cap w' ⟨?_, ?_⟩
  · cases j with
    | zero => simp [ob] at hj; rw [← hj, addr_add]; exact hl
    | succ j => simp [ob] at hj
  · have := Got.mk' hown h2 h3
    rw [ob_append] at this
    exact this
  · intro g' hg'
    simp [Value.ownBlock] at hg'
    subst hg'
    exact h4
end Go.Proofs.YtogednaamndpgaaGreatDoor

/-
  What is told of a file, counted; what Whole makes of it. No walk.
-/
namespace Go.Proofs.YtogednaamndpgaaGreatDoor
open Go.RowKit
set_option linter.unusedVariables false
def cds (T : List Gev) : List Nat := T.map fun e => e.2.1
def cde (E : List Evn) : List Nat := E.map fun e => e.1
theorem cds_append (T U : List Gev) : cds (T ++ U) = cds T ++ cds U := by simp [cds]
theorem cds_evs (t : Nat) (E : List Evn) : cds (evs t E) = cde E := by simp [cds, cde, evs]
/-- What stands ahead of the byte that is too much; is there one? -/
def ct : Nat → List Nat → List Nat × Bool
  | _, [] => ([], false)
  | 0, g :: r => if g < 256 then ([], true) else (g :: (ct 0 r).1, (ct 0 r).2)
  | m + 1, g :: r => if g < 256 then (g :: (ct m r).1, (ct m r).2) else (g :: (ct (m + 1) r).1, (ct (m + 1) r).2)
/-- What Whole answers. -/
def rs (m y : Nat) (ls : List (List Nat)) (cs : List Nat) : List (List Nat) × Nat := (po ls (ct m cs).1, if (ct m cs).2 then 62 else y)
section
variable {m y g : Nat} {ls : List (List Nat)} {r : List Nat}
theorem rs_nil : rs m y ls [] = (ls, y) := by cases m <;> rfl
theorem ct_big (h : ¬ g < 256) : ct m (g :: r) = (g :: (ct m r).1, (ct m r).2) := by
  cases m <;> simp [ct, h]
theorem rs_open : rs m y ls (256 :: r) = rs m y (ls ++ [[]]) r := by
  unfold rs
  rw [ct_big (by omega)]
  simp [po]
theorem rs_close : rs m y ls (257 :: r) = rs m y ls r := by
  unfold rs
  rw [ct_big (by omega)]
  simp [po]
theorem rs_byte (h : g < 256) : rs (m + 1) y ls (g :: r) = rs m y (ls.dropLast ++ [ls.getLastD [] ++ [g]]) r := by
  unfold rs
  have e : ct (m + 1) (g :: r) = (g :: (ct m r).1, (ct m r).2) := by simp [ct, h]
  rw [e]
  simp [po, show g ≠ 256 by omega, show g ≠ 257 by omega]
theorem rs_over (h : g < 256) : rs 0 y ls (g :: r) = (ls, 62) := by
  unfold rs
  have e : ct 0 (g :: r) = ([], true) := by simp [ct, h]
  rw [e]
  simp [po]
end
/-- How many members begin. -/
def nop : List Nat → Nat
  | [] => 0
  | g :: r => (if g = 256 then 1 else 0) + nop r
theorem nop_append (a b : List Nat) : nop (a ++ b) = nop a + nop b := by
  induction a with
  | nil => simp [nop]
  | cons g r ih => simp only [List.cons_append, nop, ih]; omega
def nbe : List Nat → Nat
  | [] => 0
  | g :: r => (if g < 256 then 1 else 0) + nbe r
theorem nbe_append (a b : List Nat) : nbe (a ++ b) = nbe a + nbe b := by
  induction a with
  | nil => simp [nbe]
  | cons g r ih => simp only [List.cons_append, nbe, ih]; omega
theorem nby_cds (T : List Gev) : nby T = nbe (cds T) := by
  induction T with
  | nil => rfl
  | cons e T ih => simp only [nby, cds, List.map_cons, nbe] at ih ⊢; rw [ih]
theorem gd_true : ∀ r : List Nat, Gd true r
  | [] => trivial
  | g :: r => by
    unfold Gd
    split
    · exact gd_true r
    · split
      · exact gd_true r
      · exact ⟨rfl, gd_true r⟩
theorem gd_append : ∀ (i : Bool) (a b : List Nat), Gd i a → (Gd (i || decide (256 ∈ a)) b) → Gd i (a ++ b)
  | i, [], b, _, h => by simpa using h
  | i, g :: a, b, h1, h2 => by
    unfold Gd at h1
    rw [List.cons_append]
    unfold Gd
    split at h1
    · rename_i e; rw [if_pos e]; exact gd_append true a b h1 (by simpa using gd_true b)
    · rename_i e
      rw [if_neg e]
      have h2' : Gd (i || decide (256 ∈ a)) b := by
        have : (256 ∈ g :: a) ↔ 256 ∈ a := by simp [Ne.symm e]
        simpa [this] using h2
      split at h1
      · rename_i e7; rw [if_pos e7]; exact gd_append i a b h1 h2'
      · rename_i e7; rw [if_neg e7]; exact ⟨h1.1, gd_append i a b h1.2 h2'⟩
/-- Where nothing is inflated the inflater's run stays, or begins anew. -/
theorem gst_y (s : Gs) (x : Nat) (h9 : s.nx ≠ 9) (hn : s.nx ≤ 13) : (gst s x).1.y.out.length ≤ s.y.out.length := by
  have fo : ∀ t : Gs, (gfield t).1.y.out.length ≤ t.y.out.length := fun t => by
    unfold gfield
    split
    · exact Nat.le_refl _
    · split
      · exact Nat.le_refl _
      · split
        · exact Nat.le_refl _
        · split
          · exact Nat.le_refl _
          · exact Nat.zero_le _
  have tx : ∀ t : Gs, t.y = s.y → (gtxt x t).1.y.out.length ≤ s.y.out.length := fun t e => by
    unfold gtxt
    split
    · exact Nat.le_trans (fo (gcnt x t)) (by show t.y.out.length ≤ _; rw [e]; exact Nat.le_refl _)
    · split <;> (show t.y.out.length ≤ _; rw [e]; exact Nat.le_refl _)
  have nu : (gnou x s).y = s.y := by unfold gnou; split <;> rfl
  unfold gst
  split
  · show (if x = 31 then gbgn x s else gbad 40 s).y.out.length ≤ _
    split <;> exact Nat.le_refl _
  · show (if x = 139 then { gcnt x s with nx := 2 } else gbad 40 s).y.out.length ≤ _
    split <;> exact Nat.le_refl _
  · show (if x = 8 then { gcnt x s with nx := 3 } else gbad 41 s).y.out.length ≤ _
    split <;> exact Nat.le_refl _
  · show (if x < 32 then { gcnt x s with fl := x, nx := 4, lf := 6 } else gbad 42 s).y.out.length ≤ _
    split <;> exact Nat.le_refl _
  · unfold gany
    split
    · exact fo { gcnt x s with lf := s.lf - 1 }
    · exact Nat.le_refl _
  · unfold gext
    split
    · split
      · exact Nat.le_refl _
      · split
        · exact fo (gath x (gcnt x s))
        · exact Nat.le_refl _
    · exact Nat.le_refl _
  · exact tx _ (by unfold gnam; split <;> rfl)
  · exact tx _ rfl
  · unfold ghsm
    split
    · split
      · exact Nat.zero_le _
      · exact Nat.le_refl _
    · exact Nat.le_refl _
  · unfold gdsm
    split
    · split <;> exact Nat.le_refl _
    · exact Nat.le_refl _
  · unfold gdsz
    split
    · split <;> exact Nat.le_refl _
    · exact Nat.le_refl _
  · show (if x = 31 then gbgn x s else { gnou x s with nx := 13 }).y.out.length ≤ _
    split
    · exact Nat.le_refl _
    · show (gnou x s).y.out.length ≤ _; rw [nu]; exact Nat.le_refl _
  · show (gnou x s).y.out.length ≤ _; rw [nu]; exact Nat.le_refl _
theorem oct_counts : ∀ o : List Nat, Oct o → nop o = 0 ∧ nbe o = o.length
  | [], _ => ⟨rfl, rfl⟩
  | a :: o, hoc => by
    have h1 := oct_counts o (fun z hz => hoc z (List.mem_cons_of_mem _ hz))
    have h2 := hoc a (List.mem_cons_self ..)
    refine ⟨?_, ?_⟩
    · simp only [nop, if_neg (show ¬ a = 256 by omega), h1.1]
    · simp only [nbe, if_pos h2, h1.2, List.length_cons]; omega
/-- What one step may tell. -/
theorem sp_tells {s s1 : Gs} {x : Nat} {E : List Evn} (hok : Gok s) (h0 : s.why = 0) (hs : Sp s x s1 E) : (∀ c ∈ cde E, c < 258) ∧ nop (cde E) ≤ 1 ∧ s1.y.out.length ≤ s.y.out.length + nbe (cde E) ∧ (Gd (decide (s.nx = 9)) (cde E)) ∧ (s1.nx = 9 → s.nx = 9 ∨ 256 ∈ cde E) := by
  rcases hs with ⟨h9, y, hy, rfl, rfl⟩ | ⟨h9, rfl, rfl⟩
  · obtain ⟨d1, d2, d3, d4⟩ := hok.d9 h0 h9
    obtain ⟨o, q1, _, _⟩ := d1.next hy
    have hoc : Oct o := fun z hz => hy.oct z (by rw [q1]; exact List.mem_append_right _ hz)
    have e1 : cde ((y.out.drop s.y.out.length).map fun b => (b, [])) = o := by
      rw [q1, List.drop_left]
      unfold cde
      rw [List.map_map]
      exact List.map_id o
    rw [e1]
    have e2 := oct_counts o hoc
    refine ⟨fun c hc => by have := hoc c hc; omega, by rw [e2.1]; decide, ?_, ?_, fun _ => Or.inl h9⟩
    · show y.out.length ≤ _
      rw [q1, e2.2, List.length_append]; exact Nat.le_refl _
    · rw [decide_eq_true h9]; exact gd_true _
  · have hf := gst_form (x := x) hok.nx h9
    rcases hf with ⟨e1, e2⟩ | ⟨m, e1, e2, e3, e4, e5⟩ | ⟨e1, e2, e3⟩
    · rw [e1]
      refine ⟨fun c hc => by simp [cde] at hc, by decide, ?_, trivial, fun q => absurd q e2⟩
      exact Nat.le_trans (gst_y s x h9 hok.nx) (Nat.le_add_right _ _)
    · rw [e1]
      refine ⟨fun c hc => by simp [cde] at hc; omega, by simp [cde, nop], ?_, ?_, fun _ => Or.inr (by simp [cde])⟩
      · rw [e4]; exact Nat.zero_le _
      · simp [cde, Gd]
    · rw [e1]
      refine ⟨fun c hc => by simp [cde] at hc; omega, by decide, ?_, ?_, fun q => by rw [e2] at q; cases q⟩
      · exact Nat.le_trans (gst_y s x h9 hok.nx) (Nat.le_add_right _ _)
      · simp [cde, Gd]
/-- The last byte that was taken. -/
theorem Rch.last {b : List Nat} {k : Nat} {s : Gs} {T : List Gev} (h : Rch b (k + 1) s T) : ∃ s' T' x E, Rch b k s' T' ∧ s'.why = 0 ∧ b[k]? = some x ∧ Sp s' x s E ∧ T = T' ++ evs k E := by
  obtain ⟨s1, T1, T2, q1, _, _⟩ := h.back (Nat.le_succ k)
  obtain ⟨h0, x, s2, E, T3, a1, a2, a3, a4, a5⟩ := h.at q1 (Nat.lt_succ_self k)
  have hl := h.1
  have e : (b.take (k + 1)).drop (k + 1) = [] := by rw [List.drop_eq_nil_iff, List.length_take]; omega
  rw [e] at a5
  obtain ⟨rfl, rfl⟩ := a5
  exact ⟨s1, T1, x, E, q1, h0, a1, a2, by rw [a4, List.append_nil]⟩
structure Rfc (b : List Nat) (k : Nat) (s : Gs) (T : List Gev) : Prop where
  ok : Gok s
  len : s.y.out.length ≤ nbe (cds T)
  gd : Gd false (cds T)
  op : s.nx = 9 → 256 ∈ cds T
  lt : ∀ c ∈ cds T, c < 258
  no : nop (cds T) ≤ k
theorem rch_facts {b : List Nat} (ho : Oct b) : ∀ (k : Nat) (s : Gs) (T : List Gev), Rch b k s T → Rfc b k s T
  | 0, s, T, h => by
    have h2 := h.2
    rw [List.take_zero] at h2
    obtain ⟨rfl, rfl⟩ := h2
    exact ⟨gok0, Nat.zero_le _, trivial, fun e => (by cases e), fun c hc => (by cases hc), Nat.le_refl _⟩
  | k + 1, s, T, h => by
    obtain ⟨s', T', x, E, h1, h2, h3, h4, rfl⟩ := h.last
    have f := rch_facts ho k s' T' h1
    have hx := ho x (List.mem_of_getElem? h3)
    obtain ⟨q1, q2, q3, q4, q5⟩ := sp_tells f.ok h2 h4
    have fl := f.len
    have fn := f.no
    refine ⟨f.ok.sp h2 hx h4, ?_, ?_, ?_, ?_, ?_⟩
    · rw [cds_append, cds_evs, nbe_append]; omega
    · rw [cds_append, cds_evs]
      refine gd_append false _ _ f.gd ?_
      by_cases h9 : s'.nx = 9
      · have : decide (256 ∈ cds T') = true := decide_eq_true (f.op h9)
        rw [this]; exact gd_true _
      · rw [decide_eq_false h9] at q4
        by_cases h6 : 256 ∈ cds T'
        · rw [decide_eq_true h6]; exact gd_true _
        · rw [decide_eq_false h6]; exact q4
    · intro e
      rw [cds_append, cds_evs]
      rcases q5 e with h9 | h6
      · exact List.mem_append_left _ (f.op h9)
      · exact List.mem_append_right _ h6
    · intro c hc
      rw [cds_append, cds_evs] at hc
      rcases List.mem_append.1 hc with h6 | h6
      · exact f.lt c h6
      · exact q1 c h6
    · rw [cds_append, cds_evs, nop_append]; omega
end Go.Proofs.YtogednaamndpgaaGreatDoor

/-
  What the document's Of comes to, and that Whole answers it. No walk.
-/
namespace Go.Proofs.YtogednaamndpgaaGreatDoor
open Go.RowKit
set_option linter.unusedVariables false
section
variable {b : List Nat} {r : Gr} {z : Cfg} {M : Nat} {s : Gs}
theorem mtail_kee : Kee r (mtail b z r) := by unfold mtail; split <;> exact ⟨(gnum_kee 4).1, (gnum_kee 4).2⟩
theorem msize_kee : Kee r (msize b z r) := by unfold msize; split <;> exact ⟨(gnum_kee 4).1, (gnum_kee 4).2⟩
/-- What a member leaves: events behind, fewer bytes left. -/
structure Mk (r q : Gr) (E : List Gev) (j : Nat) : Prop where
  ev : q.ev = r.ev ++ E
  len : E.length ≤ nby E + j
  left : q.left + nby E = r.left
theorem Mk.kee {q q' : Gr} {E : List Gev} {j : Nat} (h : Mk r q E j) (k : Kee q q') : Mk r q' E j := ⟨k.2.trans h.ev, h.len, by rw [k.1]; exact h.left⟩
theorem gmemb_mk (hz : (ghead b r).1.why = 0 → Stands (b.drop (ghead b r).1.pos) (ghead b r).1.left z) : ∃ E, Mk r (gmemb b r z) E 2 ∧ ((gmemb b r z).why = 0 → E ≠ []) := by
  have hk := ghead_kee (b := b) (r := r)
  by_cases h0 : (ghead b r).1.why = 0
  · have hs := hz h0
    have hm := stands_most hs
    obtain ⟨rh, hrh⟩ : ∃ rh, (ghead b r).1 = rh := ⟨_, rfl⟩
    obtain ⟨nm, hnm⟩ : ∃ nm, (ghead b r).2 = nm := ⟨_, rfl⟩
    rw [hrh] at h0 hk hs hm
    have hn : nby ([(rh.pos - 1, 256, nm)] ++ gtells rh.pos z) = z.out.length := by
      rw [nby_append, nby_tells hs.oct hs.tl]
      simp [nby]
    have hl : ([(rh.pos - 1, 256, nm)] ++ gtells rh.pos z).length ≤ z.out.length + 1 := by
      rw [List.length_append, List.length_singleton]
      unfold gtells
      rw [List.length_zipWith]
      omega
    have hE : Mk r (mdata b nm z rh) ([(rh.pos - 1, 256, nm)] ++ gtells rh.pos z) 1 := by
      refine ⟨?_, by rw [hn]; exact hl, ?_⟩
      · show rh.ev ++ [(rh.pos - 1, 256, nm)] ++ gtells rh.pos z = _
        rw [hk.2, List.append_assoc]
      · show rh.left - z.out.length + nby _ = r.left
        rw [hn, ← hk.1]
        omega
    have hne : ([(rh.pos - 1, 256, nm)] ++ gtells rh.pos z) ≠ [] := by simp
    obtain ⟨E0, hE0⟩ : ∃ E0, [(rh.pos - 1, 256, nm)] ++ gtells rh.pos z = E0 := ⟨_, rfl⟩
    rw [hE0] at hE hne
    have up : ∀ q, Mk r q E0 1 → Mk r q E0 2 := fun q h => ⟨h.ev, by have := h.len; omega, h.left⟩
    by_cases he : endC z = true
    · have e : gmemb b r z = mrest b z { mdata b nm z rh with pos := rh.pos + atC (b.length - rh.pos) z + 1 } := by
        unfold gmemb; rw [hrh, hnm, if_pos h0, if_pos he]
      rw [e]
      obtain ⟨r9, hr9⟩ : ∃ r9, r9 = { mdata b nm z rh with pos := rh.pos + atC (b.length - rh.pos) z + 1 } := ⟨_, rfl⟩
      have h9 : Mk r r9 E0 1 := by rw [hr9]; exact ⟨hE.ev, hE.len, hE.left⟩
      rw [← hr9]
      unfold mrest
      split
      · have h10 := (h9.kee (mtail_kee (b := b) (z := z))).kee (msize_kee (b := b) (z := z))
        unfold mclose
        split
        · refine ⟨E0 ++ [((msize b z (mtail b z r9)).pos - 1, 257, [])], ⟨?_, ?_, ?_⟩, fun _ => by simp⟩
          · show (msize b z (mtail b z r9)).ev ++ _ = _
            rw [h10.ev, List.append_assoc]
          · rw [List.length_append, List.length_singleton, nby_append]
            have := h10.len
            omega
          · show (msize b z (mtail b z r9)).left + _ = _
            rw [nby_append]
            have := h10.left
            simp [nby]
            omega
        · exact ⟨E0, up _ h10, fun _ => hne⟩
      · exact ⟨E0, up _ (h9.kee (mtail_kee (b := b) (z := z))), fun _ => hne⟩
    · have e : gmemb b r z = gstop (whyC z) (min (rh.pos + atC (b.length - rh.pos) z) b.length) (mdata b nm z rh) := by
        unfold gmemb; rw [hrh, hnm, if_pos h0, if_neg he]
      rw [e]
      exact ⟨E0, ⟨hE.ev, by have := hE.len; omega, hE.left⟩, fun _ => hne⟩
  · have e : gmemb b r z = (ghead b r).1 := by unfold gmemb; rw [if_neg h0]
    rw [e]
    exact ⟨[], ⟨by rw [hk.2, List.append_nil], by simp, by rw [hk.1]; simp [nby]⟩, fun q => absurd q h0⟩
/-- Ahead of a member. -/
def Fp0 (b : List Nat) (M : Nat) (r : Gr) : Prop := (∃ s, Sp0 b r s) ∧ r.left + nby r.ev = M ∧ r.ev.length ≤ 2 * r.pos + nby r.ev ∧ r.pos ≤ b.length
/-- Behind a member. -/
def Fq (b : List Nat) (M : Nat) (r : Gr) : Prop := r.left + nby r.ev = M ∧ r.ev.length ≤ 2 * b.length + M + 2 ∧ (((∃ s, Sb b r s) ∧ r.ev.length ≤ 2 * r.pos + nby r.ev) ∨ Js b r ∨ Jx b r)
/-- What Of answers. -/
def Fo (b : List Nat) (M : Nat) (r : Gr) : Prop := r.left + nby r.ev = M ∧ r.ev.length ≤ 2 * b.length + M + 2 ∧ ((r.why = 0 ∧ ∃ s, Rch b b.length s r.ev ∧ s.why = 0 ∧ s.wh = true) ∨ Js b r ∨ Jx b r)
theorem rch_grows {k k' : Nat} {s s' : Gs} {T E : List Gev} (h : Rch b k s T) (h' : Rch b k' s' (T ++ E)) (hE : E ≠ []) : k < k' := by
  apply Classical.byContradiction
  intro q
  obtain ⟨s1, T1, T2, q1, _, q3⟩ := h.back (Nat.le_of_not_lt q)
  obtain ⟨_, e⟩ := q1.det h'
  rw [e] at q3
  have := congrArg List.length q3
  rw [List.length_append, List.length_append] at this
  have : E.length = 0 := by omega
  exact hE (List.eq_nil_of_length_eq_zero this)
theorem memb_fq (ho : Oct b) (h : Fp0 b M r) (hM : M < MM) (hz : (ghead b r).1.why = 0 → Stands (b.drop (ghead b r).1.pos) (ghead b r).1.left z) : Fq b M (gmemb b r z) ∧ ((gmemb b r z).why = 0 → r.pos < (gmemb b r z).pos) := by
  obtain ⟨⟨s, hs⟩, h1, h2, h3⟩ := h
  obtain ⟨E, hE, hne⟩ := gmemb_mk hz
  have hk := ghead_kee (b := b) (r := r)
  have hok := memb_ok ho hs hz (by rw [hk.1]; omega)
  have hev := hE.ev
  have hlen := hE.len
  have hleft := hE.left
  have hgrow : (∃ s1, Sb b (gmemb b r z) s1) → r.pos < (gmemb b r z).pos := fun ⟨s1, q⟩ => by
    have q2 := q.rch
    rw [hev] at q2
    exact rch_grows hs.rch q2 (hne q.why)
  have hnb : nby (gmemb b r z).ev = nby r.ev + nby E := by rw [hev, nby_append]
  have hnl : (gmemb b r z).ev.length = r.ev.length + E.length := by rw [hev, List.length_append]
  refine ⟨⟨by omega, by omega, ?_⟩, fun q => ?_⟩
  · rcases hok with q | q | q
    · have := hgrow q
      exact Or.inl ⟨q, by omega⟩
    · exact Or.inr (Or.inl q)
    · exact Or.inr (Or.inr q)
  · rcases hok with p | p | p
    · exact hgrow p
    · exact absurd q p.1
    · rw [p.1] at q; cases q
theorem Fq.stop (h : Fq b M r) (hy : r.why ≠ 0) : Fo b M r := by
  refine ⟨h.1, h.2.1, ?_⟩
  rcases h.2.2 with ⟨⟨s, q⟩, _⟩ | q
  · exact absurd q.why hy
  · exact Or.inr q
theorem Fq.open (h : Fq b M r) (hy : r.why = 0) : (∃ s, Sb b r s) ∧ r.ev.length ≤ 2 * r.pos + nby r.ev := by
  rcases h.2.2 with q | q | q
  · exact q
  · exact absurd hy q.1
  · rw [q.1] at hy; cases hy
theorem Fq.fin (h : Fq b M r) (hy : r.why = 0) (hp : r.pos = b.length) : Fo b M r := by
  obtain ⟨⟨s, q⟩, _⟩ := h.open hy
  exact ⟨h.1, h.2.1, Or.inl ⟨hy, s, by rw [← hp]; exact q.rch, q.sw, q.wh⟩⟩
theorem Fq.next (h : Fq b M r) (hy : r.why = 0) (hp : b[r.pos]? = some 31) : Fp0 b M r := by
  obtain ⟨⟨s, q⟩, q2⟩ := h.open hy
  exact ⟨⟨s, hy, q.rch, q.sw, Or.inr ⟨q.nx, hp⟩, q.nm, q.nb⟩, h.1, q2, q.rch.1⟩
/-- Behind the members, noughts. -/
def Nz (b : List Nat) (i : Nat) (T : List Gev) : Prop := ∃ s, Rch b i s T ∧ s.why = 0 ∧ s.wh = true ∧ ((s.nx = 12 ∧ b[i]? ≠ some 31) ∨ s.nx = 13)
theorem Fq.nz (h : Fq b M r) (hy : r.why = 0) (hp : b[r.pos]? ≠ some 31) : Nz b r.pos r.ev := by
  obtain ⟨⟨s, q⟩, _⟩ := h.open hy
  exact ⟨s, q.rch, q.sw, q.wh, Or.inl ⟨q.nx, hp⟩⟩
theorem Nz.step {i : Nat} {T : List Gev} (h : Nz b i T) (hx : b[i]? = some 0) : Nz b (i + 1) T := by
  obtain ⟨s, h1, h2, h3, h4⟩ := h
  rcases h4 with ⟨h4, _⟩ | h4
  · have e : gst s 0 = ({ s with nx := 13 }, []) := by unfold gst; rw [h4]; rfl
    have := h1.step h2 hx (Or.inr ⟨by rw [h4]; decide, rfl, rfl⟩)
    rw [e] at this
    rw [show T ++ evs i ({ s with nx := 13 }, ([] : List Evn)).2 = T from List.append_nil _] at this
    exact ⟨{ s with nx := 13 }, this, h2, h3, Or.inr rfl⟩
  · have e : gst s 0 = (s, []) := by unfold gst; rw [h4]; rfl
    have := h1.step h2 hx (Or.inr ⟨by rw [h4]; decide, rfl, rfl⟩)
    rw [e] at this
    exact ⟨_, by simpa [evs] using this, h2, h3, Or.inr h4⟩
theorem Nz.bad {i x : Nat} {T : List Gev} (h : Nz b i T) (hx : b[i]? = some x) (h0 : x ≠ 0) : Jz b T 47 i := by
  obtain ⟨s, h1, h2, h3, h4⟩ := h
  have e : ∃ s', gst s x = (s', []) ∧ s'.why = 47 := by
    rcases h4 with ⟨h4, h5⟩ | h4
    · refine ⟨{ gnou x s with nx := 13 }, ?_, ?_⟩
      · unfold gst; rw [h4]
        show (if x = 31 then gbgn x s else { gnou x s with nx := 13 }, []) = _
        rw [if_neg (fun e => h5 (by rw [hx, e]))]
      · show (gnou x s).why = 47
        unfold gnou; rw [if_neg h0]; rfl
    · refine ⟨gnou x s, by unfold gst; rw [h4]; rfl, ?_⟩
      unfold gnou; rw [if_neg h0]; rfl
  obtain ⟨s', e1, e2⟩ := e
  have := h1.step h2 hx (Or.inr ⟨by rcases h4 with ⟨h4, _⟩ | h4 <;> rw [h4] <;> decide, rfl, rfl⟩)
  rw [e1] at this
  exact ⟨by decide, i + 1, s', by simpa [evs] using this, Or.inr ⟨e2, rfl⟩⟩
theorem Fq.bad {i x : Nat} (h : Fq b M r) (hn : Nz b i r.ev) (hx : b[i]? = some x) (h0 : x ≠ 0) : Fo b M (gstop 47 i r) := ⟨h.1, h.2.1, Or.inr (Or.inl (hn.bad hx h0))⟩
theorem Fq.clean (h : Fq b M r) (hy : r.why = 0) (hn : Nz b b.length r.ev) : Fo b M r := by
  obtain ⟨s, h1, h2, h3, _⟩ := hn
  exact ⟨h.1, h.2.1, Or.inl ⟨hy, s, h1, h2, h3⟩⟩
theorem Fo.of_p0 (M : Nat) : Fp0 b M ⟨[], 0, b.length, 0, M⟩ := ⟨⟨s0, rfl, rch_zero b, rfl, Or.inl ⟨rfl, rfl⟩, rfl, by decide⟩, by simp [nby], by simp, Nat.zero_le _⟩
/-- It goes on to the end. -/
theorem rch_on : ∀ (m : Nat) (k : Nat) (s : Gs) (T : List Gev), b.length - k = m → Rch b k s T → ∃ k' s' T', Rch b k' s' (T ++ T') ∧ (s'.why ≠ 0 ∨ k' = b.length)
  | 0, k, s, T, hm, h => ⟨k, s, [], by rw [List.append_nil]; exact h, Or.inr (by have := h.1; omega)⟩
  | m + 1, k, s, T, hm, h => by
    by_cases h0 : s.why = 0
    · have hk : k < b.length := by omega
      have hx : b[k]? = some b[k] := List.getElem?_eq_getElem hk
      obtain ⟨s1, E, hs⟩ : ∃ s1 E, Sp s b[k] s1 E := by
        by_cases h9 : s.nx = 9
        · obtain ⟨y, hy⟩ := stands_ex (s.ip ++ [b[k]]) MM
          exact ⟨_, _, Or.inl ⟨h9, y, hy, rfl, rfl⟩⟩
        · exact ⟨_, _, Or.inr ⟨h9, rfl, rfl⟩⟩
      obtain ⟨k', s', T', h1, h2⟩ := rch_on m (k + 1) s1 _ (by omega) (h.step h0 hx hs)
      exact ⟨k', s', evs k E ++ T', by rw [← List.append_assoc]; exact h1, h2⟩
    · exact ⟨k, s, [], by rw [List.append_nil]; exact h, Or.inl h0⟩
theorem ct_le : ∀ (m : Nat) (cs : List Nat), nbe cs ≤ m → ct m cs = (cs, false)
  | 0, [], _ => rfl
  | m + 1, [], _ => rfl
  | m, g :: r, h => by
    by_cases hg : g < 256
    · simp only [nbe, if_pos hg] at h
      cases m with
      | zero => omega
      | succ m =>
        have ih := ct_le m r (by omega)
        simp [ct, hg, ih]
    · simp only [nbe, if_neg hg] at h
      have ih := ct_le m r (by omega)
      rw [ct_big hg, ih]
theorem ct_over : ∀ (m : Nat) (cs : List Nat) (x : Nat) (u : List Nat), nbe cs = m → x < 256 → ct m (cs ++ x :: u) = (cs, true)
  | 0, [], x, u, _, hx => by simp [ct, hx]
  | m + 1, [], x, u, h, _ => by simp [nbe] at h
  | m, g :: r, x, u, h, hx => by
    by_cases hg : g < 256
    · simp only [nbe, if_pos hg] at h
      cases m with
      | zero => omega
      | succ m =>
        have ih := ct_over m r x u (by omega) hx
        simp [ct, hg, ih]
    · simp only [nbe, if_neg hg] at h
      have ih := ct_over m r x u (by omega) hx
      rw [List.cons_append, ct_big hg, ih]
/-- Whole answers what the document says. -/
theorem Fo.whole (h : Fo b M r) : ∃ k s T, Rch b k s T ∧ (s.why ≠ 0 ∨ k = b.length) ∧ rs M (zfin s) [] (cds T) = (po [] (cds r.ev), r.why) := by
  have hn : nbe (cds r.ev) ≤ M := by rw [← nby_cds]; have := h.1; omega
  rcases h.2.2 with ⟨h0, s, h1, h2, h3⟩ | ⟨h0, k, s, h1, h2⟩ | ⟨h0, h00, k, s, T, x, U, h1, h2, h3⟩
  · refine ⟨_, s, _, h1, Or.inr rfl, ?_⟩
    have e : zfin s = 0 := by unfold zfin; rw [if_neg (fun e => e h2), if_pos h3]
    unfold rs
    rw [ct_le _ _ hn, e, h0]
    rfl
  · refine ⟨k, s, _, h1, ?_, ?_⟩
    · rcases h2 with ⟨_, _, q, _⟩ | ⟨q, _⟩
      · exact Or.inr q
      · exact Or.inl (by rw [q]; exact h0)
    · have e : zfin s = r.why := by
        unfold zfin
        rcases h2 with ⟨q1, q2, _, q3, _⟩ | ⟨q, _⟩
        · rw [if_neg (fun e => e q1), if_neg (by rw [q2]; decide), q3]
        · rw [if_pos (by rw [q]; exact h0), q]
      unfold rs
      rw [ct_le _ _ hn, e]
      rfl
  · obtain ⟨k', s', T', q1, q2⟩ := rch_on _ k s T rfl h1
    refine ⟨k', s', _, q1, q2, ?_⟩
    have hc : cds (T ++ T') = cds r.ev ++ x :: (U.map (fun e => e.1) ++ cds T') := by
      have : cds T = cds r.ev ++ x :: U.map (fun e => e.1) := by
        have := congrArg (List.map (fun e : Evn => e.1)) h2
        simpa [cds, List.map_map, Function.comp_def] using this
      rw [cds_append, this, List.append_assoc, List.cons_append]
    have hM : nbe (cds r.ev) = M := by rw [← nby_cds]; have := h.1; omega
    unfold rs
    rw [hc, ct_over _ _ _ _ hM h3, h0]
    rfl
end
end Go.Proofs.YtogednaamndpgaaGreatDoor

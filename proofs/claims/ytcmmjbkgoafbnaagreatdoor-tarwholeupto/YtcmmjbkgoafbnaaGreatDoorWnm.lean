/-
  A header's own name.
-/
import Derived.Test.YtcmmjbkgoafbnaaGreatDoorWbg
namespace Go.Proofs.YtcmmjbkgoafbnaaGreatDoor
open Go.RowKit
set_option linter.unusedVariables false
set_option linter.unusedSimpArgs false
theorem st_nil : st [] = ⟨#[]⟩ := rfl
theorem st_slash : st [47] = ⟨#[47]⟩ := rfl
theorem ustar_eq {k : List Nat} (h : Oct k) : ((st k).toList == [117, 115, 116, 97, 114]) = decide (k = [117, 115, 116, 97, 114]) := by
  have := st_beq h (show Oct [117, 115, 116, 97, 114] from by unfold Oct; decide)
  have e : (st [117, 115, 116, 97, 114]).toList = [117, 115, 116, 97, 114] := by rw [ByteArray.toList_eq]; rfl
  rw [e] at this; exact this
theorem empty_eq {k : List Nat} (h : Oct k) : ((st k).toList == []) = decide (k = []) := by
  have := st_beq h Oct.nil
  have e : (st []).toList = [] := by rw [ByteArray.toList_eq]; rfl
  rw [e] at this; exact this
section
variable {W : Nat} {s : Ts} {v : Rv}
theorem Wm.sub (w : World) (h : Wm w W s v) (f n : Nat) : ∀ (i x : Nat), ((s.B.drop f).take n)[i]? = some x → w.cell? ⟨W, 2 + f + i, none⟩ = some (.int .u8 (x : Int)) := fun i x hx => by
  rw [List.getElem?_take] at hx
  split at hx
  · rw [List.getElem?_drop] at hx
    rw [Nat.add_assoc]
    exact h.kb hx
  · cases hx
set_option maxRecDepth 20000 in
set_option maxHeartbeats 1000000 in
theorem name_c (w : World) (h : Wm w W s v) : Calls Tryz.prog 56 #[.pointer (some ⟨W, 2, none⟩)] w fun e w' => e = .returned (.string (st (tnm s.B))) ∧ Below w.heap.size w w' := by
  have hk := h.ok
  have hbl := hk.bl
  have l1 : ((s.B.drop 0).take 100).length = 100 := by rw [List.length_take, List.length_drop]; omega
  have l2 : ((s.B.drop 257).take 5).length = 5 := by rw [List.length_take, List.length_drop]; omega
  have l3 : ((s.B.drop 345).take 155).length = 155 := by rw [List.length_take, List.length_drop]; omega
  obtain ⟨a, ha⟩ : ∃ a, (s.B.drop 0).take 100 = a := ⟨_, rfl⟩
  obtain ⟨u, hu⟩ : ∃ u, (s.B.drop 257).take 5 = u := ⟨_, rfl⟩
  obtain ⟨p, hp⟩ : ∃ p, (s.B.drop 345).take 155 = p := ⟨_, rfl⟩
  have oa : Oct a := by rw [← ha]; exact (hk.bo.drop _).take _
  have ou : Oct u := by rw [← hu]; exact (hk.bo.drop _).take _
  have op : Oct p := by rw [← hp]; exact (hk.bo.drop _).take _
  have s1 := h.sub w 0 100
  rw [ha] at l1 s1
  rw [hu] at l2
  rw [hp] at l3
  have h1 := text_c (b := W) (o := 2) (C := 512) w l1 oa (by decide) (by decide) h.lt (fun i x hx => s1 i x hx)
  have h2 : ∀ x, Below w.heap.size w x → (convert 22 9 (.slice (some ⟨W, 259, none⟩) 5 255)).run Tryz.prog x = .ok (.string (st u)) x := fun x bx => conv_st 5 255 l2 ou (Or.inr ⟨W, 259, rfl, fun i z hz => by rw [← hu] at hz; exact (h.below bx h.lt).sub x 257 5 i z hz⟩)
  have h3 : ∀ x, Below w.heap.size w x → Calls Tryz.prog 58 #[.slice (some ⟨W, 347, none⟩) 155 167] x fun e w' => e = .returned (.string (st (ttx p))) ∧ Below x.heap.size x w' := fun x bx => text_c (b := W) (o := 347) (C := 167) x l3 op (by decide) (by decide) (Nat.lt_of_lt_of_le h.lt bx.size) (fun i z hz => by rw [← hp] at hz; exact (h.below bx h.lt).sub x 345 155 i z hz)
  have e1 := ustar_eq ou
  have e2 := empty_eq (oct_ttx op)
  have htn : tnm s.B = if u = [117, 115, 116, 97, 114] ∧ ttx p ≠ [] then ttx p ++ [47] ++ ttx a else ttx a := by
    unfold tnm
    rw [hu, hp, show s.B.take 100 = a by rw [← ha, List.drop_zero]]
  have hla : (ttx a).length ≤ 100 := by have := ttx_len a; omega
  have hlp : (ttx p).length ≤ 155 := by have := ttx_len p; omega
  obtain ⟨sa, hsa⟩ : ∃ sa, st (ttx a) = sa := ⟨_, rfl⟩
  obtain ⟨su, hsu⟩ : ∃ su, st u = su := ⟨_, rfl⟩
  obtain ⟨sp, hsp⟩ : ∃ sp, st (ttx p) = sp := ⟨_, rfl⟩
  rw [hsa] at h1
  rw [hsu] at e1
  simp only [hsu] at h2
  rw [hsp] at e2
  simp only [hsp] at h3
  by_cases q1 : u = [117, 115, 116, 97, 114]
  · rw [decide_eq_true q1] at e1
    have e1b : (su.toList != [117, 115, 116, 97, 114]) = false := by rw [bne, e1]; rfl
    by_cases q2 : ttx p = []
    · rw [decide_eq_true q2] at e2
      have e2b : (sp.toList != []) = false := by rw [bne, e2]; rfl
      have AT : Aside (st (tnm s.B) = sa) := by show st _ = sa; rw [htn, if_neg (fun q => q.2 q2), hsa]
      have A2 : Aside (∀ x, Below w.heap.size w x → (convert 22 9 (.slice (some ⟨W, 259, none⟩) 5 255)).run Tryz.prog x = .ok (.string su) x) := h2
      have A3 : Aside (∀ x, Below w.heap.size w x → Calls Tryz.prog 58 #[.slice (some ⟨W, 347, none⟩) 155 167] x fun e w' => e = .returned (.string sp) ∧ Below x.heap.size x w') := h3
      clear h hk hbl l1 l2 l3 ha hu hp oa ou op s1 htn hla hlp hsa hsu hsp q1 q2 h2 h3
      go_enter Tryz.func56, Tryz.ntmps56
      go_upto_region 2 with (go_at_call 58; refine h1.mono ?_; rintro e1 w1 ⟨rfl, b1⟩)
      have h2 := A2.out w1 b1
      go_upto_region 4 with fail
      have h3 := A3.out w1 b1
      clear h2 h1
      go_wp2_with (go_at_call 58; refine h3.mono ?_; rintro e2 w2 ⟨rfl, b2⟩)
      first | go_ret | go_ret2
      exact ⟨by rw [AT.out]; rfl, b1.trans (b2.mono b1.size)⟩
    · rw [decide_eq_false q2] at e2
      have e2b : (sp.toList != []) = true := by rw [bne, e2]; rfl
      have z1 : sp.size = (ttx p).length := by rw [← hsp]; exact st_size _
      have z2 : sa.size = (ttx a).length := by rw [← hsa]; exact st_size _
      obtain ⟨np, hnp⟩ : ∃ np, (ttx p).length = np := ⟨_, rfl⟩
      obtain ⟨na, hna⟩ : ∃ na, (ttx a).length = na := ⟨_, rfl⟩
      rw [hnp] at z1 hlp
      rw [hna] at z2 hla
      obtain ⟨sc, hsc⟩ : ∃ sc, sp ++ (⟨#[47]⟩ : ByteArray) = sc := ⟨_, rfl⟩
      obtain ⟨sd, hsd⟩ : ∃ sd, sc ++ sa = sd := ⟨_, rfl⟩
      have z3 : sc.size = np + 1 := by rw [← hsc, ByteArray.size_append, z1]; rfl
      have u1 : (9223372036854775807 < np + 1) = False := eq_false (by omega)
      have u2 : (9223372036854775807 < np + 1 + na) = False := eq_false (by omega)
      have z47 : (⟨#[47]⟩ : ByteArray).size = 1 := rfl
      have AT : Aside (st (tnm s.B) = sd) := by
        show st _ = sd
        rw [htn, if_pos ⟨q1, q2⟩, ← st_append, ← st_append, hsp, hsa, st_slash, hsc, hsd]
      have A2 : Aside (∀ x, Below w.heap.size w x → (convert 22 9 (.slice (some ⟨W, 259, none⟩) 5 255)).run Tryz.prog x = .ok (.string su) x) := h2
      have A3 : Aside (∀ x, Below w.heap.size w x → Calls Tryz.prog 58 #[.slice (some ⟨W, 347, none⟩) 155 167] x fun e w' => e = .returned (.string sp) ∧ Below x.heap.size x w') := h3
      clear h hk hbl l1 l2 l3 ha hu hp oa ou op s1 htn hla hlp hsa hsu hsp q1 q2 h2 h3 hnp hna
      go_enter Tryz.func56, Tryz.ntmps56
      go_upto_region 2 with (go_at_call 58; refine h1.mono ?_; rintro e1 w1 ⟨rfl, b1⟩)
      have h2 := A2.out w1 b1
      go_upto_region 4 with fail
      have h3 := A3.out w1 b1
      clear h2 h1
      go_wp2_with (go_at_call 58; refine h3.mono ?_; rintro e2 w2 ⟨rfl, b2⟩)
      first | go_ret | go_ret2
      exact ⟨by rw [AT.out]; rfl, b1.trans (b2.mono b1.size)⟩
  · rw [decide_eq_false q1] at e1
    have e1b : (su.toList != [117, 115, 116, 97, 114]) = true := by rw [bne, e1]; rfl
    have AT : Aside (st (tnm s.B) = sa) := by show st _ = sa; rw [htn, if_neg (fun q => q1 q.1), hsa]
    have A2 : Aside (∀ x, Below w.heap.size w x → (convert 22 9 (.slice (some ⟨W, 259, none⟩) 5 255)).run Tryz.prog x = .ok (.string su) x) := h2
    clear h hk hbl l1 l2 l3 ha hu hp oa ou op s1 htn hla hlp hsa hsu hsp q1 h2 h3 e2
    go_enter Tryz.func56, Tryz.ntmps56
    go_upto_region 2 with (go_at_call 58; refine h1.mono ?_; rintro e1 w1 ⟨rfl, b1⟩)
    have h2 := A2.out w1 b1
    go_wp2_with fail
    first | go_ret | go_ret2
    exact ⟨by rw [AT.out]; rfl, b1⟩
end
end Go.Proofs.YtcmmjbkgoafbnaaGreatDoor

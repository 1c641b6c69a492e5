/-
  Own texts of this seat, one behind the other: what each says stands ahead of it.
-/
import Derived.Test.YtogednaamndpgaaGreatDoorMn
import Derived.Test.YtogednaamndpgaaGreatDoorMg
/-
  The document's full: its walk.
-/
namespace Go.Proofs.YtogednaamndpgaaGreatDoor
open Go.RowKit
set_option linter.unusedVariables false
theorem vb_set (p r : List Bool) (u : Bool) {i : Nat} (h : p.length = i) : (vb (p ++ u :: r)).toArray.setIfInBounds i (.bool true) = (vb ((p ++ [true]) ++ r)).toArray := by
  subst h
  simp [vb]
theorem vb_at (p r : List Bool) (u : Bool) {i : Nat} (h : p.length = i) : (vb (p ++ u :: r)).toArray[i]? = some (.bool u) := by
  subst h
  simp [vb]
theorem wrap2 (k : Nat) (h : k ≤ 10) : IntKind.i64.wrap (2 * 2 ^ k) = ((2 * 2 ^ k : Nat) : Int) := by
  have h1 : 2 ^ k ≤ 2 ^ 10 := Nat.pow_le_pow_right (by decide) h
  rw [show 2 ^ 10 = 1024 from rfl] at h1
  have e : (2 * 2 ^ k : Int) = ((2 * 2 ^ k : Nat) : Int) := by push_cast; rfl
  rw [e, IntKind.wrap_i64]
  omega
theorem wrap2b (k : Nat) (h : k ≤ 10) : wrap64 (2 * 2 ^ k) = ((2 * 2 ^ k : Nat) : Int) := by
  have h1 : 2 ^ k ≤ 2 ^ 10 := Nat.pow_le_pow_right (by decide) h
  rw [show 2 ^ 10 = 1024 from rfl] at h1
  have e : (2 * 2 ^ k : Int) = ((2 * 2 ^ k : Nat) : Int) := by push_cast; rfl
  rw [e]
  unfold wrap64
  omega
theorem wvi_set (D : List Nat) (v : Nat) {i m : Nat} (h : D.length = i) : (vi (iz D ++ List.replicate (m + 1) 0)).toArray.setIfInBounds i (.int .i64 (v : Int)) = (vi (iz (D ++ [v]) ++ List.replicate m 0)).toArray := by
  subst h
  simp [vi, iz, List.replicate_succ]
theorem wvi_set2 (D : List Nat) (v u : Nat) {i m : Nat} (h : D.length = i) : (vi (iz (D ++ [u]) ++ List.replicate m 0)).toArray.setIfInBounds i (.int .i64 (v : Int)) = (vi (iz (D ++ [v]) ++ List.replicate m 0)).toArray := by
  subst h
  simp [vi, iz]
theorem wvi_at (D : List Nat) {i m : Nat} (h : D.length = i) : (vi (iz D ++ List.replicate (m + 1) 0)).toArray[i]? = some (.int .i64 0) := by
  subst h
  simp [vi, iz, List.replicate_succ]
theorem But.newer {b H : Nat} {w u v : World} (h : But b w u) (k : Only H u v) (hH : w.heap.size = H) : But b w v := ⟨k.os.trans h.os, k.tape.trans h.tape, k.output.trans h.output, by rw [k.size]; exact h.size, fun i hi hb => (k.block i (by omega)).trans (h.block i hi hb)⟩
def FMid (us : List Bool) (least n0 ub H : Nat) (w : World) (c : Nat) (U : List Bool) (wr : World) : Prop :=
  U = addUp least us (us.count true) ∧ c = U.count true ∧ Cells wr ub (vb U).toArray 4 ∧ Cells wr H (vi (List.replicate n0 0)).toArray 3 ∧ But ub w wr
set_option maxRecDepth 100000 in
set_option maxHeartbeats 2000000 in
theorem wfull_c (us : List Bool) (least : Nat) (hl : least ≤ 2) (ub n0 : Nat) (w : World) (hu : Cells w ub (vb us).toArray 4) (hn : us.length = n0) (hnb : n0 ≤ 320) :
    Calls Tryz.prog 84 #[.slice (some ⟨ub, 0, none⟩) n0 n0, .int .i64 (least : Int)] w fun e w' => e = .returned (.slice (some ⟨w.heap.size, 0, none⟩) n0 n0) ∧ Cells w' w.heap.size (vi (iz (fullOf (addUp least us (us.count true))))).toArray 3 ∧ But ub w w' := by
  have hmk := madei n0 (by omega) w
  obtain ⟨w1, hw1⟩ : ∃ w1, w1 = w.alloc (.cells (vi (List.replicate n0 0)).toArray 3) := ⟨_, rfl⟩
  obtain ⟨H, hH⟩ : ∃ H, w.heap.size = H := ⟨_, rfl⟩
  rw [← hw1, hH] at hmk
  rw [hH]
  have hub : ub < H := by rw [← hH]; exact hu.lt
  have A : Aside (least ≤ 2 ∧ us.length = n0 ∧ n0 ≤ 320 ∧ w.heap.size = H ∧ ub < H ∧ Cells w1 ub (vb us).toArray 4 ∧ Cells w1 H (vi (List.replicate n0 0)).toArray 3 ∧ But ub w w1) := ⟨hl, hn, hnb, hH, hub, by rw [hw1]; exact hu.alloc _, by rw [hw1, ← hH]; exact Cells.new w _ 3, by rw [hw1]; have b := (Below.refl w.heap.size w).alloc (Nat.le_refl _) (.cells (vi (List.replicate n0 0)).toArray 3); exact ⟨b.os, b.tape, b.output, b.size, fun k hk _ => b.block k hk⟩⟩
  have hnI : (n0 : Int) ≤ 320 := by omega
  have hlI : (least : Int) ≤ 2 := by omega
  clear hl hu hn hnb hw1 hH hub
  go_enter Tryz.func84, Tryz.ntmps84
  go_wp2_with fail
  clear hmk
  go_loopg [6, 7] (n0 + 1) (fun gg s6 s7 wr => ∃ i c : Nat, s6 = .int .i64 (c : Int) ∧ s7 = .int .i64 (i : Int) ∧ Aside (i + gg = n0 + 1 ∧ i ≤ n0 ∧ c = (us.take i).count true) ∧ w1 = wr)
  case atStart => exact ⟨0, 0, rfl, rfl, ⟨by omega, by omega, by simp⟩, rfl⟩
  case round =>
    obtain ⟨i, c, rfl, rfl, AI, hw⟩ := hrel
    subst hw
    have hcb : c ≤ 320 := by
      have h1 := List.count_le_length (a := true) (l := us.take i)
      have h2 := AI.out
      have h3 := A.out
      rw [List.length_take] at h1
      omega
    have hcI : (c : Int) ≤ 320 := by omega
    by_cases hi : i < n0
    · have t1 : ((i : Int) < (n0 : Int)) = True := eq_true (by omega)
      have t1' : (i < n0) = True := eq_true hi
      have hiI : (i : Int) < 320 := by omega
      obtain ⟨x, hx⟩ : ∃ x, us[i]? = some x := ⟨_, List.getElem?_eq_getElem (by have := A.out; omega)⟩
      have cx : w1.cell? ⟨ub, i, none⟩ = some (.bool x) := by rw [A.out.2.2.2.2.2.1.cell]; simp [vb, hx]
      have AZ : Aside (i < n0 ∧ (us.take (i + 1)).count true = (us.take i).count true + (if x then 1 else 0)) := ⟨hi, by rw [List.take_add_one, hx, List.count_append]; cases x <;> rfl⟩
      clear hx hi hcb
      cases x
      all_goals
        go_wp2_with fail
        go_roundg (n0 + 1 - (i + 1))
        case measure => have := AI.out; have := AZ.out; omega
        case rel => first
          | exact ⟨i + 1, c + 1, by go_num, by go_num, ⟨by have := AZ.out; omega, by have := AZ.out; omega, by rw [AZ.out.2, ← AI.out.2.2]; rfl⟩, rfl⟩
          | exact ⟨i + 1, c, by go_num, by go_num, ⟨by have := AZ.out; omega, by have := AZ.out; omega, by rw [AZ.out.2, ← AI.out.2.2]; rfl⟩, rfl⟩
    · have t1 : ((i : Int) < (n0 : Int)) = False := eq_false (by omega)
      have t1' : (i < n0) = False := eq_false hi
      have AC : Aside (c = us.count true) := by
        have h := AI.out
        have h2 : i = us.length := by have := A.out; omega
        show c = _
        rw [h.2.2, h2, List.take_length]
      clear hi hcb
      go_wp2_with fail
      clear t1 t1'
      go_loopg [6, 8] (n0 + 1) (fun gg s6 s8 wr => ∃ (i c : Nat) (p r : List Bool), s6 = .int .i64 (c : Int) ∧ s8 = .int .i64 (i : Int) ∧ Aside (i + gg = n0 + 1 ∧ i ≤ n0 ∧ Up least us i p r c ∧ Cells wr ub (vb (p ++ r)).toArray 4 ∧ Cells wr H (vi (List.replicate n0 0)).toArray 3 ∧ But ub w wr))
      case atStart => exact ⟨0, c, [], us, rfl, rfl, by omega, by omega, by rw [AC.out]; exact Up.start least us, A.out.2.2.2.2.2.1, A.out.2.2.2.2.2.2.1, A.out.2.2.2.2.2.2.2⟩
      case round =>
        obtain ⟨j, n, p, r, rfl, rfl, hJ⟩ := hrel
        obtain ⟨hjg, hjn, hup, hcu, hch, hbut⟩ := hJ.out
        have hrl : r.length = n0 - j := by rw [hup.rest, List.length_drop]; have := A.out; omega
        have hnn : n ≤ 320 := by
          have h1 := hup.num
          have h2 := List.count_le_length (a := true) (l := p)
          have h3 := List.count_le_length (a := true) (l := r)
          have h4 := hup.len
          have := A.out
          omega
        have hnnI : (n : Int) ≤ 320 := by omega
        have hjI : (j : Int) ≤ 320 := by have := A.out; omega
        by_cases hj : j < n0 ∧ n < least
        · obtain ⟨u, r', rfl⟩ : ∃ u r', r = u :: r' := by
            cases r with
            | nil => simp at hrl; omega
            | cons u r' => exact ⟨u, r', rfl⟩
          have t1 : ((j : Int) < (n0 : Int)) = True := eq_true (by omega)
          have t1' : (j < n0) = True := eq_true hj.1
          have t2 : ((n : Int) < (least : Int)) = True := eq_true (by omega)
          have t2' : (n < least) = True := eq_true hj.2
          have cx : wr.cell? ⟨ub, j, none⟩ = some (.bool u) := by rw [hcu.cell]; exact vb_at p r' u hup.len
          have cf := hcu.frozen j
          have AZ : Aside (j + gk = n0 + 1 ∧ j < n0 ∧ Up least us (j + 1) (p ++ [true]) r' (if u then n else n + 1) ∧ Cells wr ub (vb (p ++ u :: r')).toArray 4 ∧ Cells wr H (vi (List.replicate n0 0)).toArray 3 ∧ But ub w wr ∧ p.length = j ∧ ub < H) := ⟨hjg, hj.1, hup.next hj.2, hcu, hch, hbut, hup.len, A.out.2.2.2.2.1⟩
          clear hJ hjg hjn hup hcu hch hbut hrl hnn hj
          cases u
          · go_wp2_with fail
            go_roundg (n0 + 1 - (j + 1))
            case measure => have := AZ.out; omega
            case rel =>
              have z := AZ.out
              have o1 : Only ub wr (wr.setCell ⟨ub, j, none⟩ (.bool true)) := (Only.refl ub wr).setCell j _
              refine ⟨j + 1, n + 1, p ++ [true], r', by go_num, by go_num, by omega, by omega, z.2.2.1, ?_, z.2.2.2.2.1.only o1 (by omega), z.2.2.2.2.2.1.only o1⟩
              have := z.2.2.2.1.set j (.bool true)
              rwa [vb_set p r' false z.2.2.2.2.2.2.1] at this
          · go_wp2_with fail
            go_roundg (n0 + 1 - (j + 1))
            case measure => have := AZ.out; omega
            case rel =>
              have z := AZ.out
              refine ⟨j + 1, n, p ++ [true], r', by go_num, by go_num, by omega, by omega, z.2.2.1, ?_, z.2.2.2.2.1, z.2.2.2.2.2.1⟩
              have := z.2.2.2.1
              rwa [show p ++ true :: r' = (p ++ [true]) ++ r' by simp] at this
        · obtain ⟨U, hU⟩ : ∃ U, p ++ r = U := ⟨_, rfl⟩
          have AF : Aside (FMid us least n0 ub H w n U wr ∧ U.length = n0 ∧ n ≤ 320) := by
            have hd : r = [] ∨ least ≤ n := by
              by_cases h : j < n0
              · exact Or.inr (by omega)
              · exact Or.inl (List.eq_nil_of_length_eq_zero (by omega))
            obtain ⟨e1, e2⟩ := hup.done hd
            rw [hU] at e1 e2 hcu
            exact ⟨⟨e1.symm, e2, hcu, hch, hbut⟩, by rw [← hU, List.length_append, hup.len, hrl]; omega, hnn⟩
          clear hJ hjg hup hcu hch hbut hrl hnn
          by_cases hj1 : j < n0
          all_goals
            first
              | (have t1 : ((j : Int) < (n0 : Int)) = True := eq_true (by omega)
                 have t1' : (j < n0) = True := eq_true hj1
                 have t2 : ((n : Int) < (least : Int)) = False := eq_false (by omega)
                 have t2' : (n < least) = False := eq_false (by omega))
              | (have t1 : ((j : Int) < (n0 : Int)) = False := eq_false (by omega)
                 have t1' : (j < n0) = False := eq_false hj1)
            clear hj1 hj hU
            go_wp2_with fail
            go_loopg [9] (11) (fun gg s9 wx => ∃ k : Nat, s9 = .int .i64 (k : Int) ∧ Aside (k + gg = 11 ∧ (k = 0 ∨ 2 ^ k ≤ n)) ∧ wr = wx)
            case atStart => exact ⟨0, rfl, ⟨by omega, Or.inl rfl⟩, rfl⟩
            case round =>
              obtain ⟨k, rfl, AK, hwx⟩ := hrel
              subst hwx
              have hk8 : k ≤ 8 := by
                rcases AK.out.2 with h | h
                · omega
                · apply Decidable.byContradiction
                  intro h9
                  have h1 : 2 ^ 9 ≤ 2 ^ k := Nat.pow_le_pow_right (by decide) (by omega)
                  rw [show 2 ^ 9 = 512 from rfl] at h1
                  have := AF.out.2.2
                  omega
              have hkI : (k : Int) ≤ 8 := by omega
              have hz1 := wrap2 k (by omega)
              have hz2 := wrap2b k (by omega)
              obtain ⟨Z, hZ⟩ : ∃ Z, 2 * 2 ^ k = Z := ⟨_, rfl⟩
              rw [hZ] at hz1 hz2
              have AZZ : Aside (2 * 2 ^ k = Z ∧ k ≤ 8) := ⟨hZ, hk8⟩
              by_cases hle : Z ≤ n
              · have q1 : ((Z : Int) ≤ (n : Int)) = True := eq_true (by clear hz1 hz2; omega)
                have q1' : (Z ≤ n) = True := eq_true hle
                have AL : Aside (Z ≤ n) := hle
                clear hZ hle hk8
                go_wp2_with fail
                go_roundg (11 - (k + 1))
                case measure => clear hz1 hz2; have := AK.out; have := AZZ.out; omega
                case rel => exact ⟨k + 1, by go_num, ⟨by clear hz1 hz2; have := AZZ.out; omega, Or.inr (by rw [Nat.pow_succ]; have h1 := AZZ.out; have h2 := AL.out; omega)⟩, rfl⟩
              · have q1 : ((Z : Int) ≤ (n : Int)) = False := eq_false (by clear hz1 hz2; omega)
                have q1' : (Z ≤ n) = False := eq_false hle
                obtain ⟨S0, hS0⟩ : ∃ S0, Z - n = S0 := ⟨_, rfl⟩
                have hsub : (Z : Int) - (n : Int) = (S0 : Int) := by clear hz1 hz2; omega
                have hp8 : 2 ^ k ≤ 2 ^ 8 := Nat.pow_le_pow_right (by decide) hk8
                rw [show 2 ^ 8 = 256 from rfl] at hp8
                have hS0b : S0 ≤ 512 := by clear hz1 hz2; omega
                have hS0I : (S0 : Int) ≤ 512 := by clear hz1 hz2; omega
                have hlog : Nat.log2 n = k := log_is (by clear hz1 hz2; omega) AK.out.2
                have AFU : Aside (fullOf (addUp least us (us.count true)) = fl k n U S0 ∧ S0 ≤ 512) := by
                  have f := AF.out.1
                  refine ⟨?_, hS0b⟩
                  rw [← f.1]
                  unfold fullOf
                  rw [← f.2.1, hlog, Nat.pow_succ, Nat.mul_comm, hZ, hS0]
                clear hZ hle hp8 hS0 hS0b hlog hk8
                go_wp2_with fail
                clear hz1 hz2 q1 q1' hsub
                go_loopg [10, 11] (n0 + 1) (fun gg s10 s11 wx => ∃ (i sh : Nat) (D : List Nat), s10 = .int .i64 (sh : Int) ∧ s11 = .int .i64 (i : Int) ∧ Aside (i + gg = n0 + 1 ∧ i ≤ n0 ∧ D.length = i ∧ fl k n U S0 = D ++ fl k n (U.drop i) sh ∧ sh ≤ 512 ∧ Cells wx H (vi (iz D ++ List.replicate (n0 - i) 0)).toArray 3 ∧ Cells wx ub (vb U).toArray 4 ∧ But ub w wx))
                case atStart => exact ⟨0, S0, [], rfl, rfl, by omega, by omega, rfl, rfl, AFU.out.2, AF.out.1.2.2.2.1, AF.out.1.2.2.1, AF.out.1.2.2.2.2⟩
                case round =>
                  obtain ⟨m, sh, D, rfl, rfl, hM⟩ := hrel
                  obtain ⟨hmg, hmn, hDl, hfl, hshb, hcH, hcu, hbut⟩ := hM.out
                  have hshI : (sh : Int) ≤ 512 := by omega
                  have hmI : (m : Int) ≤ 320 := by omega
                  by_cases hm : m < n0
                  · have t3 : ((m : Int) < (n0 : Int)) = True := eq_true (by omega)
                    have t3' : (m < n0) = True := eq_true hm
                    obtain ⟨x, hx⟩ : ∃ x, U[m]? = some x := ⟨_, List.getElem?_eq_getElem (by have := AF.out.2.1; omega)⟩
                    have hdr : U.drop m = x :: U.drop (m + 1) := by
                      have hlt : m < U.length := by have := AF.out.2.1; omega
                      rw [List.drop_eq_getElem_cons hlt]
                      congr 1
                      rw [List.getElem?_eq_getElem hlt] at hx
                      exact Option.some.inj hx
                    have cu : wr.cell? ⟨ub, m, none⟩ = some (.bool x) := by rw [hcu.cell]; simp [vb, hx]
                    obtain ⟨e, he⟩ : ∃ e, n0 - m = e + 1 := ⟨n0 - m - 1, by omega⟩
                    rw [he] at hcH
                    have ch : wr.cell? ⟨H, m, none⟩ = some (.int .i64 0) := by rw [hcH.cell]; exact wvi_at D hDl
                    have chf := hcH.frozen m
                    rw [hdr] at hfl
                    have he2 : n0 - (m + 1) = e := by omega
                    have AZ : Aside (m + gk = n0 + 1 ∧ m < n0 ∧ D.length = m ∧ fl k n U S0 = D ++ fl k n (x :: U.drop (m + 1)) sh ∧ sh ≤ 512 ∧ Cells wr H (vi (iz D ++ List.replicate (e + 1) 0)).toArray 3 ∧ Cells wr ub (vb U).toArray 4 ∧ But ub w wr ∧ n0 - (m + 1) = e ∧ w.heap.size = H ∧ ub < H) := ⟨hmg, hm, hDl, hfl, hshb, hcH, hcu, hbut, he2, A.out.2.2.2.1, A.out.2.2.2.2.1⟩
                    clear hM hmg hmn hDl hfl hshb hcH hcu hbut hm hx hdr he he2
                    cases x
                    · go_wp2_with fail
                      go_roundg (n0 + 1 - (m + 1))
                      case measure => have := AZ.out; omega
                      case rel =>
                        have z := AZ.out
                        refine ⟨m + 1, sh, D ++ [0], rfl, by go_num, by omega, by omega, by rw [List.length_append, z.2.2.1]; rfl, by rw [z.2.2.2.1, fl_false, List.append_assoc]; rfl, z.2.2.2.2.1, ?_, z.2.2.2.2.2.2.1, z.2.2.2.2.2.2.2.1⟩
                        rw [z.2.2.2.2.2.2.2.2.1]
                        have h := z.2.2.2.2.2.1
                        have e1 : iz D ++ List.replicate (e + 1) 0 = iz (D ++ [0]) ++ List.replicate e 0 := by simp [iz, List.replicate_succ]
                        rwa [e1] at h
                    · have kk : ((k + 1 : Nat) : Int) = (k : Int) + 1 := by omega
                      by_cases hs : 0 < sh ∧ 1 < n
                      · have s1 : ((0 : Int) < (sh : Int)) = True := eq_true (by omega)
                        have s1' : (0 < sh) = True := eq_true hs.1
                        have s2 : ((1 : Int) < (n : Int)) = True := eq_true (by omega)
                        have s2' : (1 < n) = True := eq_true hs.2
                        have AS : Aside (0 < sh ∧ 1 < n) := hs
                        clear hs kk
                        go_wp2_with fail
                        go_roundg (n0 + 1 - (m + 1))
                        case measure => have := AZ.out; omega
                        case rel =>
                          have z := AZ.out
                          have o1 : Only H wr (wr.setCell ⟨H, m, none⟩ (.int .i64 ((k : Int) + 1))) := (Only.refl H wr).setCell m _
                          have o2 := o1.setCell m (.int .i64 (k : Int))
                          refine ⟨m + 1, sh - 1, D ++ [k], by first | go_num | (congr 1; have := AS.out; omega), by go_num, by omega, by omega, by rw [List.length_append, z.2.2.1]; rfl, by rw [z.2.2.2.1, fl_true, if_pos AS.out, List.append_assoc]; rfl, by have := z.2.2.2.2.1; omega, ?_, z.2.2.2.2.2.2.1.only o2 (by omega), z.2.2.2.2.2.2.2.1.newer o2 z.2.2.2.2.2.2.2.2.2.1⟩
                          rw [z.2.2.2.2.2.2.2.2.1]
                          have h := (z.2.2.2.2.2.1.set m (.int .i64 ((k + 1 : Nat) : Int))).set m (.int .i64 (k : Int))
                          rw [wvi_set D (k + 1) z.2.2.1, wvi_set2 D k (k + 1) z.2.2.1] at h
                          exact h
                      · have AS : Aside (¬ (0 < sh ∧ 1 < n)) := hs
                        by_cases hs1 : 0 < sh
                        all_goals
                          first
                            | (have s1 : ((0 : Int) < (sh : Int)) = True := eq_true (by omega)
                               have s1' : (0 < sh) = True := eq_true hs1
                               have s2 : ((1 : Int) < (n : Int)) = False := eq_false (by omega)
                               have s2' : (1 < n) = False := eq_false (by omega))
                            | (have s1 : ((0 : Int) < (sh : Int)) = False := eq_false (by omega)
                               have s1' : (0 < sh) = False := eq_false hs1)
                          clear hs hs1 kk
                          go_wp2_with fail
                          go_roundg (n0 + 1 - (m + 1))
                          case measure => have := AZ.out; omega
                          case rel =>
                            have z := AZ.out
                            have o1 : Only H wr (wr.setCell ⟨H, m, none⟩ (.int .i64 ((k : Int) + 1))) := (Only.refl H wr).setCell m _
                            refine ⟨m + 1, sh, D ++ [k + 1], rfl, by go_num, by omega, by omega, by rw [List.length_append, z.2.2.1]; rfl, by rw [z.2.2.2.1, fl_true, if_neg AS.out, List.append_assoc]; rfl, z.2.2.2.2.1, ?_, z.2.2.2.2.2.2.1.only o1 (by omega), z.2.2.2.2.2.2.2.1.newer o1 z.2.2.2.2.2.2.2.2.2.1⟩
                            rw [z.2.2.2.2.2.2.2.2.1]
                            have h := z.2.2.2.2.2.1.set m (.int .i64 ((k + 1 : Nat) : Int))
                            rw [wvi_set D (k + 1) z.2.2.1] at h
                            exact h
                  · have t3 : ((m : Int) < (n0 : Int)) = False := eq_false (by omega)
                    have t3' : (m < n0) = False := eq_false hm
                    have AZ : Aside (Cells wr H (vi (iz (fullOf (addUp least us (us.count true))))).toArray 3 ∧ But ub w wr) := by
                      refine ⟨?_, hbut⟩
                      have hd : U.drop m = [] := by rw [List.drop_eq_nil_iff]; have := AF.out.2.1; omega
                      rw [hd, show fl k n [] sh = [] from rfl, List.append_nil] at hfl
                      rw [show n0 - m = 0 by omega, List.replicate_zero, List.append_nil] at hcH
                      rw [AFU.out.1, hfl]
                      exact hcH
                    clear hM hmg hmn hDl hfl hshb hcH hcu hbut hm
                    go_wp2_with fail
                    first | go_ret | go_ret2 | go_ret3
                    exact ⟨rfl, AZ.out.1, AZ.out.2⟩
end Go.Proofs.YtogednaamndpgaaGreatDoor

/-
 What the document's run comes to: how many bytes are those so far back.
-/
namespace Go.Proofs.YtogednaamndpgaaGreatDoor
open Go.RowKit
set_option linter.unusedVariables false
def Back (l : List Nat) (i d n : Nat) : Prop := i + n ≤ l.length ∧ ∀ k, k < n → l[i + k]? = l[i + k - d]?
set_option maxRecDepth 100000 in
set_option maxHeartbeats 4000000 in
theorem run_c (a : Option Addr) (l : List Nat) (L c i d m : Nat) (w : World) (hl : Lies w a l) (hL : l.length = L) (hLb : L ≤ 10000) (hi : i ≤ L) (hd : 1 ≤ d) (hdi : d ≤ i) (hm : m ≤ 258) :
  Calls Tryz.prog 83 #[.slice a L c, .int .i64 (i : Int), .int .i64 (d : Int), .int .i64 (m : Int)] w fun e w' => ∃ n : Nat, e = .returned (.int .i64 (n : Int)) ∧ n ≤ m ∧ Back l i d n ∧ Drawn w w' := by
 have A0 : Aside (Lies w a l ∧ l.length = L ∧ L ≤ 10000 ∧ i ≤ L ∧ 1 ≤ d ∧ d ≤ i ∧ m ≤ 258) := ⟨hl, hL, hLb, hi, hd, hdi, hm⟩
 have hib : (i : Int) ≤ 10000 := by omega
 have hLb' : (L : Int) ≤ 10000 := by omega
 have hdib : (d : Int) ≤ (i : Int) := by omega
 have hmb : (m : Int) ≤ 258 := by omega
 clear hl hL hLb hi hd hdi hm
 go_enter Tryz.func83, Tryz.ntmps83
 go_wp2_with fail
 go_loopg [9] m (fun g si wr => ∃ n : Nat, si = .int .i64 (n : Int) ∧ Aside (n + g = m ∧ Back l i d n ∧ Drawn w wr))
 case atStart => exact ⟨0, rfl, by omega, ⟨by have := A0.out; omega, fun k hk => by omega⟩, ⟨0, rfl⟩⟩
 case round =>
  obtain ⟨n, rfl, hI⟩ := hrel
  by_cases hnm : n < m
  ·have t1 : (n : Int) < (m : Int) := by omega
   by_cases hin : i + n < L
   ·have t2 : (i : Int) + (n : Int) < (L : Int) := by omega
    obtain ⟨b, o, rfl, hcl⟩ : ∃ b o, a = some ⟨b, o, none⟩ ∧ ∀ (j x : Nat), l[j]? = some x → wr.cell? ⟨b, o + j, none⟩ = some (.int .u8 (x : Int)) := by
     have hw := hI.out.2.2
     obtain ⟨r, rfl⟩ := hw
     rcases A0.out.1 with e | ⟨b, o, e, h⟩
     ·have := A0.out.2.1; rw [e] at this; simp at this; omega
     ·exact ⟨b, o, e, fun j x hx => h j x hx⟩
    have hlen := A0.out.2.1
    obtain ⟨x, hx⟩ : ∃ x, l[i + n]? = some x := ⟨_, List.getElem?_eq_getElem (by omega)⟩
    obtain ⟨y, hy⟩ : ∃ y, l[i + n - d]? = some y := ⟨_, List.getElem?_eq_getElem (by omega)⟩
    have c1 := hcl _ _ hx
    have c2 := hcl _ _ hy
    obtain ⟨p, hp⟩ : ∃ p, i + n = p := ⟨_, rfl⟩
    obtain ⟨q, hq⟩ : ∃ q, i + n - d = q := ⟨_, rfl⟩
    have hpI : (i : Int) + (n : Int) = (p : Int) := by omega
    have hqI : (p : Int) - (d : Int) = (q : Int) := by have := A0.out; omega
    rw [hp] at c1
    rw [hq] at c2
    have hpL : (p : Int) < (L : Int) := by omega
    have hqL : (q : Int) < (L : Int) := by have := A0.out; omega
    have AI : Aside (n + gk = m ∧ Back l i d n ∧ Drawn w wr ∧ n < m ∧ i + n < L ∧ l[i + n]? = some x ∧ l[i + n - d]? = some y ∧ l.length = L) := ⟨hI.out.1, hI.out.2.1, hI.out.2.2, hnm, hin, hx, hy, hlen⟩
    clear hI hnm hin hcl hlen hx hy hp hq t2
    by_cases hxy : x = y
    ·have t3 : ((x : Int) == (y : Int)) = true := beq_iff_eq.2 (by omega)
     have A2 : Aside (Back l i d (n + 1)) := by
      have q := AI.out
      refine ⟨by omega, fun k hk => ?_⟩
      by_cases e : k = n
      ·rw [e, q.2.2.2.2.2.1, q.2.2.2.2.2.2.1, hxy]
      ·exact q.2.1.2 k (by omega)
     clear hxy
     go_wp2_with fail
     go_quiet (fail)
     go_wp2_with fail
     go_roundg (gk - 1)
     case measure => have := AI.out; omega
     case rel => exact ⟨n + 1, by go_num, by have := AI.out; omega, A2.out, by obtain ⟨r, hr⟩ := AI.out.2.2.1; rw [hr]; exact ⟨_, World.drewN_drewN _ _ _⟩⟩
    ·have t3 : ((x : Int) == (y : Int)) = false := beq_eq_false_iff_ne.2 (by omega)
     clear hxy
     go_wp2_with fail
     go_quiet (fail)
     go_wp2_with fail
     go_ret
     exact ⟨n, rfl, by have := AI.out; omega, AI.out.2.1, by obtain ⟨r, hr⟩ := AI.out.2.2.1; rw [hr]; exact ⟨_, World.drewN_drewN _ _ _⟩⟩
   ·have t2 : decide ((i : Int) + (n : Int) < (L : Int)) = false := decide_eq_false (by omega)
    have AI : Aside (n ≤ m ∧ Back l i d n ∧ Drawn w wr) := ⟨by omega, hI.out.2.1, hI.out.2.2⟩
    clear hI hnm hin
    go_wp2_with fail
    go_quiet (fail)
    go_wp2_with fail
    go_ret
    exact ⟨n, rfl, AI.out.1, AI.out.2.1, by obtain ⟨r, hr⟩ := AI.out.2.2; rw [hr]; exact ⟨_, World.drewN_drewN _ _ _⟩⟩
  ·have t1 : decide (n < m) = false := decide_eq_false (by omega)
   have AI : Aside (n ≤ m ∧ Back l i d n ∧ Drawn w wr) := ⟨by have := hI.out; omega, hI.out.2.1, hI.out.2.2⟩
   clear hI hnm
   go_wp2_with fail
   go_quiet (fail)
   go_wp2_with fail
   go_ret
   exact ⟨n, rfl, AI.out.1, AI.out.2.1, by obtain ⟨r, hr⟩ := AI.out.2.2; rw [hr]; exact ⟨_, World.drewN_drewN _ _ _⟩⟩
end Go.Proofs.YtogednaamndpgaaGreatDoor

/-
 Lists of a call's own of structs of three cells: append, and what is kept by it.
-/
namespace Go.Proofs.YtogednaamndpgaaGreatDoor
open Go.RowKit
set_option linter.unusedVariables false
abbrev V3 := Value × Value × Value
def fl3 (xs : List V3) : List Value := xs.flatMap fun x => [x.1, x.2.1, x.2.2]
theorem fl3_len : ∀ xs : List V3, (fl3 xs).length = xs.length * 3
 | [] => rfl
 | x :: xs => by
  have := fl3_len xs
  unfold fl3 at *
  rw [List.flatMap_cons, List.length_append, this]
  simp
  omega
theorem fl3_app (xs ys : List V3) : fl3 (xs ++ ys) = fl3 xs ++ fl3 ys := by simp [fl3]
theorem fl3_get : ∀ (xs : List V3) (i : Nat) (x : V3), xs[i]? = some x → (fl3 xs)[i * 3]? = some x.1 ∧ (fl3 xs)[i * 3 + 1]? = some x.2.1 ∧ (fl3 xs)[i * 3 + 2]? = some x.2.2
 | [], i, x, h => by simp at h
 | y :: xs, 0, x, h => by
  simp at h
  subst h
  exact ⟨rfl, rfl, rfl⟩
 | y :: xs, i + 1, x, h => by
  have h2 := fl3_get xs i x (by simpa using h)
  have e : fl3 (y :: xs) = y.1 :: y.2.1 :: y.2.2 :: fl3 xs := rfl
  rw [e, show (i + 1) * 3 = i * 3 + 3 by omega]
  exact h2
structure O3 (w : World) (lo : Nat) (e : TypeId) (v : Value) (xs : List V3) : Prop where
 own : w.ownsRow lo e 3 v xs.length (fl3 xs)
 le : lo ≤ w.heap.size
theorem O3.nil {w : World} {lo : Nat} {e : TypeId} (h : lo ≤ w.heap.size) : O3 w lo e (.slice none 0 0) [] := ⟨⟨rfl, Or.inl ⟨rfl, rfl⟩⟩, h⟩
theorem O3.keep {w u : World} {lo : Nat} {e : TypeId} {v : Value} {xs : List V3} (h : O3 w lo e v xs) (hs : w.heap.size ≤ u.heap.size) (k : ∀ g, lo ≤ g → g < w.heap.size → (∃ cs fr, w.heap[g]? = some (.cells cs e fr)) → u.heap[g]? = w.heap[g]?) : O3 u lo e v xs := by
 refine ⟨⟨h.own.1, ?_⟩, Nat.le_trans h.le hs⟩
 rcases h.own.2 with q | ⟨g, c, cur, hv, hg, hh, q⟩
 ·exact Or.inl q
 ·have hlt : g < w.heap.size := (Array.getElem?_eq_some_iff.1 hh).1
  exact Or.inr ⟨g, c, cur, hv, hg, (k g hg hlt ⟨_, _, hh⟩).trans hh, q⟩
theorem O3.below {w u : World} {C lo : Nat} {e : TypeId} {v : Value} {xs : List V3} (h : O3 w lo e v xs) (k : Below C w u) (hC : w.heap.size ≤ C) : O3 u lo e v xs := h.keep k.size fun g h1 h2 _ => k.block g (by omega)
theorem O3.drawn {w u : World} {lo : Nat} {e : TypeId} {v : Value} {xs : List V3} (h : O3 w lo e v xs) (k : Drawn w u) : O3 u lo e v xs := by
 obtain ⟨n, rfl⟩ := k
 exact ⟨h.own, h.le⟩
theorem O3.shape {w : World} {lo : Nat} {e : TypeId} {v : Value} {xs : List V3} (h : O3 w lo e v xs) : ∃ a c, v = .slice a xs.length c ∧ xs.length ≤ c ∧ (xs = [] ∨ ∃ g cs, a = some ⟨g, 0, none⟩ ∧ lo ≤ g ∧ Cells w g cs e ∧ ∀ i x, xs[i]? = some x → w.cell? ⟨g, i * 3, none⟩ = some x.1 ∧ w.cell? ⟨g, i * 3 + 1, none⟩ = some x.2.1 ∧ w.cell? ⟨g, i * 3 + 2, none⟩ = some x.2.2) ∧ (a = none → xs.length = 0 ∧ c = 0) := by
 rcases h.own.2 with ⟨hv, h0⟩ | ⟨g, c, cur, hv, hg, hh, hc, hm, hs, ht⟩
 ·refine ⟨none, 0, by rw [hv, h0], by omega, Or.inl (List.eq_nil_of_length_eq_zero h0), fun _ => ⟨h0, rfl⟩⟩
 ·refine ⟨_, c, hv, hc, Or.inr ⟨g, cur, rfl, hg, hh, fun i x hx => ?_⟩, fun h => by cases h⟩
  have hi : i < xs.length := (List.getElem?_eq_some_iff.1 hx).1
  obtain ⟨g1, g2, g3⟩ := fl3_get xs i x hx
  have key : ∀ j y, (fl3 xs)[j]? = some y → w.cell? ⟨g, j, none⟩ = some y := fun j y hy => by
   rw [Cells.cell (cs := cur) (t := e) hh]
   have hj : j < xs.length * 3 := by have := (List.getElem?_eq_some_iff.1 hy).1; rwa [fl3_len] at this
   have e2 : (cur.toList.take (xs.length * 3))[j]? = some y := by rw [ht, hy]
   rw [List.getElem?_take, if_pos hj] at e2
   simpa using e2
  exact ⟨key _ _ g1, key _ _ g2, key _ _ g3⟩
structure G3 (lo : Nat) (e : TypeId) (w w' : World) (v' : Value) (xs : List V3) : Prop where
 ow : O3 w' lo e v' xs
 bel : Below lo w w'
theorem wpList_o3 (w : World) {ops : Array Oper} {rest : List Oper} {o : Oper} {a : Act} {Q : Exit → Act → World → Prop} (hgd : o.guard = none) (s x : Operand) (t : TypeId)
  (ho : o.op = .call { callee := .builtin .append, args := #[s, x], argTypes := #[t, t] }) (e : TypeId) (i : TypeInfo) (z : Value) (bytes : Nat) (ht : Tryz.prog.underlying t = some (.slice e)) (hi : Tryz.prog.info? e = some i) (hz0 : i.zero = some z) (hz1 : i.size = 3) (hz2 : i.bytes = bytes) (hz3 : z.cells.size = 3)
  (lo : Nat) (v : Value) (xs : List V3) (hs : a.eval s = v) (hown : O3 w lo e v xs)
  (b c : Nat) (y : V3) (hx : a.eval x = .slice (some ⟨b, 0, none⟩) 1 c) (h0 : w.cell? ⟨b, 0, none⟩ = some y.1) (h1 : w.cell? ⟨b, 1, none⟩ = some y.2.1) (h2 : w.cell? ⟨b, 2, none⟩ = some y.2.2) (hone : y.1.oneCell' = true ∧ y.2.1.oneCell' = true ∧ y.2.2.oneCell' = true) (hlen : (xs.length + 1) * bytes ≤ 1000000000)
  (hb : 0 < bytes)
  (h : ∀ v' w', G3 lo e w w' v' (xs ++ [y]) → wpList Tryz.prog ops Q rest (a.put o.dst v') w') : wpList Tryz.prog ops Q (o :: rest) a w := by
 have hlm : xs.length + 1 ≤ 1000000000 := Nat.le_trans (Nat.le_mul_of_pos_right _ hb) hlen
 refine wpList_append_own w hgd s x t ho lo e i z 3 bytes ht hi hz0 hz1 hz2 hz3 (by decide) v _ _ hs hown.own ⟨b, 0, none⟩ 1 c (fl3 [y]) hx (by rfl) ?_ ?_ (by unfold maxLen; omega) (by omega) hown.le ?_
 ·intro j u hj
  have hadd : (⟨b, 0, none⟩ : Addr).add j = ⟨b, j, none⟩ := by unfold Addr.add; split <;> simp_all
  rw [hadd]
  match j, hj with
  | 0, hj => cases hj; exact h0
  | 1, hj => cases hj; exact h1
  | 2, hj => cases hj; exact h2
 ·intro u hu
  simp only [fl3, List.flatMap_cons, List.flatMap_nil, List.append_nil, List.mem_cons, List.not_mem_nil, or_false] at hu
  rcases hu with rfl | rfl | rfl
  ·exact hone.1
  ·exact hone.2.1
  ·exact hone.2.2
 ·intro v' w' h4 h5 h6
  have hos : v.ownBlock = none ∨ ∃ g, v.ownBlock = some g ∧ lo ≤ g := by
   rcases hown.own.2 with ⟨rfl, _⟩ | ⟨g, c, cur, rfl, hg, hh, _⟩
   ·left; rfl
   ·right; exact ⟨g, rfl, hg⟩
  have hbl : Below lo w w' := (Below.refl lo w).grown h5 hown.le (fun k hk => by
   rcases hos with h7 | ⟨g, h7, hg⟩
   ·rw [h7] at hk; cases hk
   ·rw [h7] at hk; cases hk; exact hg)
  refine h v' w' ⟨⟨?_, Nat.le_trans hown.le h5.size⟩, hbl⟩
  rw [List.length_append, fl3_app]
  exact h4
theorem info110 : (Tryz.prog.info? 133).map (fun i => (i.zero, i.size, i.bytes)) = some (some (.agg #[.int .u8 0, .int .i64 0, .int .i64 0]), 3, 24) := by kernel_rfl
theorem info119 : (Tryz.prog.info? 142).map (fun i => (i.zero, i.size, i.bytes)) = some (some (.agg #[.int .i64 0, .int .i64 0, .int .i64 0]), 3, 24) := by kernel_rfl
end Go.Proofs.YtogednaamndpgaaGreatDoor

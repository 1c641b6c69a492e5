/-
  What the document's Write comes to.
-/
import Derived.Test.YtmijpocfichfpaaWrit
namespace Go.Proofs.Ytmijpocfichfpaa
open Go.RowKit
set_option linter.unusedVariables false
/-- The byte at a place, or nought. -/
def at0 (l : List Nat) (i : Nat) : Nat := l[i]?.getD 0
theorem at0_lt {l : List Nat} (h : Oct l) (i : Nat) : at0 l i < 256 := by
  unfold at0
  cases e : l[i]? with
  | none => simp
  | some x => simpa using h x (List.mem_of_getElem? e)
theorem at0_of {l : List Nat} {i x : Nat} (h : l[i]? = some x) : at0 l i = x := by unfold at0; rw [h]; rfl
theorem at0_none {l : List Nat} {i : Nat} (h : l.length ≤ i) : at0 l i = 0 := by unfold at0; rw [List.getElem?_eq_none h]; rfl
theorem g3_at {l : List Nat} {i m n : Nat} (hm : (l.drop i).length = m) (h0 : 0 < m) (hn : min 3 m = n) : g3 ((l.drop i).take 3) = grp (at0 l i) (at0 l (i + 1)) (at0 l (i + 2)) n := by
  have hl : ((l.drop i).take 3).length = n := by rw [List.length_take, hm, hn]
  rw [g3_eq (by omega) (by omega), hl]
  unfold b0 b1 b2 at0
  simp [List.getElem?_drop]
/-- The number of the first k of three bytes. -/
def vv (x y z : Nat) : Nat → Nat
  | 0 => 0
  | 1 => x
  | 2 => x * 256 + y
  | _ => x * 65536 + y * 256 + z
set_option maxRecDepth 20000 in
set_option maxHeartbeats 4000000 in
theorem rwrite_c (w : World) (a : Option Addr) (l : List Nat) (L C : Nat) (line : Int) (hl : Lies w a l) (hL : l.length = L) (hLb : L ≤ 2000000) (ho : Oct l) (hln : line < 9223372036854775808) :
    Calls Try.prog 18 #[.slice a L C, .int .i64 line] w fun e w' => ∃ v, e = .returned v ∧ Ob w' w.heap.size v (wri l line) ∧ Below w.heap.size w w' := by
  obtain ⟨B, hB⟩ : ∃ B, w.heap.size = B := ⟨_, rfl⟩
  rw [hB]
  have hLi : (L : Int) ≤ 2000000 := by omega
  have A : Aside (Lies w a l ∧ l.length = L ∧ L ≤ 2000000 ∧ Oct l ∧ line < 9223372036854775808 ∧ w.heap.size = B) := ⟨hl, hL, hLb, ho, hln, hB⟩
  clear hl hL hLb ho hln hB
  go_enter Try.func18, Try.ntmps18
  go_wp2_with fail
  go_loopg [5, 6] (L + 2) (fun gg s5 s6 wr => ∃ i : Nat, s6 = .int .i64 (i : Int) ∧ Aside (i + gg = L + 2 ∧ i ≤ L + 2 ∧ ∃ acc, Ob wr B s5 acc ∧ acc ++ enc (l.drop i) = enc l ∧ Below B w wr))
  case atStart => exact ⟨0, rfl, by omega, by omega, [], Ow.nil (by have := A.out; omega), rfl, Below.refl _ _⟩
  case round =>
    obtain ⟨i, rfl, hI⟩ := hrel
    obtain ⟨w5, hw5⟩ : ∃ w5, w5 = wr := ⟨_, rfl⟩
    subst hw5
    obtain ⟨G, hG⟩ : ∃ G, G = gk := ⟨_, rfl⟩
    subst hG
    obtain ⟨hig, hi2, acc, hob, hacc, hbel⟩ := hI.out
    have a0 := A.out
    have hel := enc_len l
    have hsum : acc.length + (enc (l.drop i)).length = (L + 2) / 3 * 4 := by
      have := congrArg List.length hacc
      rw [List.length_append, hel, a0.2.1] at this
      exact this
    obtain ⟨va, vc, hv, hvc, hlies, hvn⟩ := hob.shape
    obtain ⟨ln, hln⟩ : ∃ ln, acc.length = ln := ⟨_, rfl⟩
    rw [hln] at hv
    subst hv
    by_cases hi : i < L
    · have t1 : ((i : Int) < (L : Int)) = True := eq_true (by omega)
      have t1' : (i < L) = True := eq_true hi
      have hiI : (i : Int) < 2000000 := by omega
      obtain ⟨m, hm⟩ : ∃ m, (l.drop i).length = m := ⟨_, rfl⟩
      have hm2 : m = L - i := by rw [← hm, List.length_drop, a0.2.1]
      obtain ⟨n, hn⟩ : ∃ n, min 3 m = n := ⟨_, rfl⟩
      have hg3 := g3_at hm (by omega) hn
      have hst := enc_step (l := l.drop i) (fun e => by rw [e] at hm; simp at hm; omega)
      rw [hg3, List.drop_drop] at hst
      obtain ⟨x, hx⟩ : ∃ x, at0 l i = x := ⟨_, rfl⟩
      obtain ⟨y, hy⟩ : ∃ y, at0 l (i + 1) = y := ⟨_, rfl⟩
      obtain ⟨z, hz⟩ : ∃ z, at0 l (i + 2) = z := ⟨_, rfl⟩
      have hx8 := at0_lt a0.2.2.2.1 i
      have hy8 := at0_lt a0.2.2.2.1 (i + 1)
      have hz8 := at0_lt a0.2.2.2.1 (i + 2)
      rw [hx, hy, hz] at hst
      rw [hx] at hx8
      rw [hy] at hy8
      rw [hz] at hz8
      obtain ⟨ab, ao, ha, hcB⟩ : ∃ ab ao, a = some ⟨ab, ao, none⟩ ∧ ∀ (j y : Nat), l[j]? = some y → w5.cell? ⟨ab, ao + j, none⟩ = some (.int .u8 (y : Int)) := by
        rcases a0.1 with e | ⟨ab, ao, e, h⟩
        · rw [e] at a0; simp at a0; omega
        · exact ⟨ab, ao, e, fun j y hj => (hbel.cell (p := ⟨ab, ao + j, none⟩) (by rw [← a0.2.2.2.2.2]; exact World.block_lt_of_cell? w _ (h j y hj))).trans (h j y hj)⟩
      subst ha
      have hsl := congrArg List.length hst
      rw [List.length_append] at hsl
      simp only [grp_len] at hsl
      have AX : Aside (i + G = L + 2 ∧ i < L ∧ Ob w5 B (.slice va ln vc) acc ∧ acc ++ enc (l.drop i) = enc l ∧ Below B w w5 ∧ enc (l.drop i) = grp x y z n ++ enc (l.drop (i + 3)) ∧ n = min 3 (L - i) ∧ x < 256 ∧ y < 256 ∧ z < 256 ∧ at0 l i = x ∧ at0 l (i + 1) = y ∧ at0 l (i + 2) = z ∧ l.length = L ∧ acc.length + 4 ≤ 140737488355328 ∧ L ≤ 2000000) := ⟨hig, hi, hob, hacc, hbel, hst, by rw [← hn, hm2], hx8, hy8, hz8, hx, hy, hz, a0.2.1, by omega, a0.2.2.1⟩
      have AC : Aside (∀ (j y : Nat), l[j]? = some y → w5.cell? ⟨ab, ao + j, none⟩ = some (.int .u8 (y : Int))) := hcB
      clear hI hig hi2 hob hacc hbel a0 hel hsum hvc hlies hvn hln hi hm hm2 hn hg3 hst hx hy hz hx8 hy8 hz8 hsl hcB
      go_wp2_with fail
      go_loopg [7, 8, 9] 3 (fun gg s7 s8 s9 wq => ∃ k v q : Nat, s7 = .int .i64 (v : Int) ∧ s8 = .int .i64 (q : Int) ∧ s9 = .int .i64 (k : Int) ∧ wq = w5 ∧ Aside (k + gg = 3 ∧ v = vv x y z k ∧ q = min k n))
      case atStart => exact ⟨0, 0, 0, rfl, rfl, rfl, rfl, by omega, rfl, by omega⟩
      case round =>
        obtain ⟨k, v, q, rfl, rfl, rfl, rfl, hJ⟩ := hrel
        obtain ⟨hkg, hvv, hq⟩ := hJ.out
        have ax := AX.out
        by_cases hk : k < 3
        · rcases (show k = 0 ∨ k = 1 ∨ k = 2 by omega) with rfl | rfl | rfl
          · have hvb : (v : Int) < 65536 := by
              have := ax
              simp only [vv] at hvv
              omega
            have hqb : (q : Int) ≤ 3 := by omega
            · have t2 : ((i : Int) + 0 < (L : Int)) = True := eq_true (by omega)
              obtain ⟨u, hu⟩ : ∃ u, l[i + 0]? = some u := ⟨_, List.getElem?_eq_getElem (by omega)⟩
              have cu := AC.out _ _ hu
              simp only [Nat.add_zero] at cu
              have hux : u = x := by have h1 := at0_of hu; have h2 := ax.2.2.2.2.2.2.2.2.2.2.1; simp only [Nat.add_zero] at h1; omega
              subst hux
              have hu8 : (u : Int) < 256 := by omega
              have AY : Aside (0 + gk = 3 ∧ v * 256 + u = vv u y z 1 ∧ q + 1 = min 1 n) := ⟨hkg, by (simp only [vv] at hvv ⊢; omega), by have hnn := ax.2.2.2.2.2.2.1; omega⟩
              clear hJ hkg hvv hq ax hk hu
              go_wp2_with fail
              have ay := AY.out
              go_roundg (gk - 1)
              case measure => omega
              case rel => exact ⟨1, v * 256 + u, q + 1, by go_num, by go_num, by go_num, rfl, by omega, ay.2.1, ay.2.2⟩
          · have hvb : (v : Int) < 65536 := by
              have := ax
              simp only [vv] at hvv
              omega
            have hqb : (q : Int) ≤ 3 := by omega
            by_cases hik : i + 1 < L
            · have t2 : ((i : Int) + 1 < (L : Int)) = True := eq_true (by omega)
              obtain ⟨u, hu⟩ : ∃ u, l[i + 1]? = some u := ⟨_, List.getElem?_eq_getElem (by omega)⟩
              have cu := AC.out _ _ hu
              have hux : u = y := by have h1 := at0_of hu; have h2 := ax.2.2.2.2.2.2.2.2.2.2.2.1; omega
              subst hux
              have hu8 : (u : Int) < 256 := by omega
              have AY : Aside (1 + gk = 3 ∧ v * 256 + u = vv x u z 2 ∧ q + 1 = min 2 n) := ⟨hkg, by (simp only [vv] at hvv ⊢; omega), by have hnn := ax.2.2.2.2.2.2.1; omega⟩
              clear hJ hkg hvv hq ax hk hu hik
              go_wp2_with fail
              have ay := AY.out
              go_roundg (gk - 1)
              case measure => omega
              case rel => exact ⟨2, v * 256 + u, q + 1, by go_num, by go_num, by go_num, rfl, by omega, ay.2.1, ay.2.2⟩
            · have t2 : ((i : Int) + 1 < (L : Int)) = False := eq_false (by omega)
              have hz0 : y = 0 := by have hll := ax.2.2.2.2.2.2.2.2.2.2.2.2.2.1; have h1 := at0_none (l := l) (i := i + 1) (by omega); have h2 := ax.2.2.2.2.2.2.2.2.2.2.2.1; omega
              have AY : Aside (1 + gk = 3 ∧ v * 256 = vv x y z 2 ∧ q = min 2 n) := ⟨hkg, by (simp only [vv] at hvv ⊢; omega), by have hnn := ax.2.2.2.2.2.2.1; omega⟩
              clear hJ hkg hvv hq ax hk hik hz0
              go_wp2_with fail
              have ay := AY.out
              go_roundg (gk - 1)
              case measure => omega
              case rel => exact ⟨2, v * 256, q, by go_num, by go_num, by go_num, rfl, by omega, ay.2.1, ay.2.2⟩
          · have hvb : (v : Int) < 65536 := by
              have := ax
              simp only [vv] at hvv
              omega
            have hqb : (q : Int) ≤ 3 := by omega
            by_cases hik : i + 2 < L
            · have t2 : ((i : Int) + 2 < (L : Int)) = True := eq_true (by omega)
              obtain ⟨u, hu⟩ : ∃ u, l[i + 2]? = some u := ⟨_, List.getElem?_eq_getElem (by omega)⟩
              have cu := AC.out _ _ hu
              have hux : u = z := by have h1 := at0_of hu; have h2 := ax.2.2.2.2.2.2.2.2.2.2.2.2.1; omega
              subst hux
              have hu8 : (u : Int) < 256 := by omega
              have AY : Aside (2 + gk = 3 ∧ v * 256 + u = vv x y u 3 ∧ q + 1 = min 3 n) := ⟨hkg, by (simp only [vv] at hvv ⊢; omega), by have hnn := ax.2.2.2.2.2.2.1; omega⟩
              clear hJ hkg hvv hq ax hk hu hik
              go_wp2_with fail
              have ay := AY.out
              go_roundg (gk - 1)
              case measure => omega
              case rel => exact ⟨3, v * 256 + u, q + 1, by go_num, by go_num, by go_num, rfl, by omega, ay.2.1, ay.2.2⟩
            · have t2 : ((i : Int) + 2 < (L : Int)) = False := eq_false (by omega)
              have hz0 : z = 0 := by have hll := ax.2.2.2.2.2.2.2.2.2.2.2.2.2.1; have h1 := at0_none (l := l) (i := i + 2) (by omega); have h2 := ax.2.2.2.2.2.2.2.2.2.2.2.2.1; omega
              have AY : Aside (2 + gk = 3 ∧ v * 256 = vv x y z 3 ∧ q = min 3 n) := ⟨hkg, by (simp only [vv] at hvv ⊢; omega), by have hnn := ax.2.2.2.2.2.2.1; omega⟩
              clear hJ hkg hvv hq ax hk hik hz0
              go_wp2_with fail
              have ay := AY.out
              go_roundg (gk - 1)
              case measure => omega
              case rel => exact ⟨3, v * 256, q, by go_num, by go_num, by go_num, rfl, by omega, ay.2.1, ay.2.2⟩
        · obtain rfl : k = 3 := by omega
          obtain ⟨al, hal⟩ : ∃ al, x * 65536 + y * 256 + z = al := ⟨_, rfl⟩
          have hva : v = al := by rw [hvv, ← hal]; rfl
          subst hva
          have hqn : q = n := by omega
          subst hqn
          have hvb : (v : Int) < 16777216 := by omega
          have AV : Aside (x * 65536 + y * 256 + z = v ∧ x < 256 ∧ y < 256 ∧ z < 256) := ⟨hal, by omega, by omega, by omega⟩
          have hn13 : q = 1 ∨ q = 2 ∨ q = 3 := by omega
          clear hJ hkg hvv hq ax hk hal
          go_wp2_with fail
          go_loopg [5, 10] 4 (fun gg s5 s10 wq => ∃ k : Nat, s10 = .int .i64 (k : Int) ∧ Aside (k + gg = 4 ∧ ∃ out, Ob wq B s5 out ∧ out = acc ++ (grp x y z q).take k ∧ Below B w wq))
          case atStart => exact ⟨0, rfl, by omega, acc, AX.out.2.2.1, by simp, AX.out.2.2.2.2.1⟩
          case round =>
            obtain ⟨k, rfl, hJ⟩ := hrel
            obtain ⟨hkg, out, hob, hout, hbel⟩ := hJ.out
            obtain ⟨va3, vc3, hv3, _, _, _⟩ := hob.shape
            obtain ⟨ln3, hln3⟩ : ∃ ln, out.length = ln := ⟨_, rfl⟩
            rw [hln3] at hv3
            subst hv3
            by_cases hk : k < 4
            · have AY : Aside (k + gk = 4 ∧ k < 4 ∧ out = acc ++ (grp x y z q).take k ∧ Below B w wr) := ⟨hkg, hk, hout, hbel⟩
              have AL : Aside (out.length + 1 ≤ 140737488355328) := by
                have := AX.out
                show _ ≤ _
                rw [hout, List.length_append, List.length_take, grp_len]
                omega
              clear hJ hkg hout hbel hln3
              obtain ⟨H, hH⟩ : ∃ H, wr.heap.size = H := ⟨_, rfl⟩
              rcases hn13 with rfl | rfl | rfl
              · rcases (show k = 0 ∨ k = 1 ∨ k = 2 ∨ k = 3 by omega) with rfl | rfl | rfl | rfl
                · obtain ⟨ix, hix⟩ : ∃ ix : Nat, x / 4 = ix := ⟨_, rfl⟩
                  have hib : ix < 64 := by have := AV.out; omega
                  have hd : (v : Int) / 262144 % 64 = (ix : Int) := by have := AV.out; omega
                  obtain ⟨lb, hlb⟩ : ∃ lb, lt ix = lb := ⟨_, rfl⟩
                  have hlet : ∀ p, ((ByteArray.mk #[65, 66, 67, 68, 69, 70, 71, 72, 73, 74, 75, 76, 77, 78, 79, 80, 81, 82, 83, 84, 85, 86, 87, 88, 89, 90, 97, 98, 99, 100, 101, 102, 103, 104, 105, 106, 107, 108, 109, 110, 111, 112, 113, 114, 115, 116, 117, 118, 119, 120, 121, 122, 48, 49, 50, 51, 52, 53, 54, 55, 56, 57, 43, 47])[ix]'p).toNat = lb := fun p => by rw [let_at ix hib]; exact hlb
                  have hib2 : (ix : Int) < 64 := by omega
                  have AI : Aside (lt (x / 4) = lb) := (show _ = _ by rw [hix]; exact hlb)
                  have hlbb : lb < 256 := by rw [← hlb]; exact lt_oct ix hib
                  clear hix hlb hk
                  have bal : Below wr.heap.size wr (wr.alloc (.cells #[.int .u8 (lb : Int)] 5)) := (Below.refl _ wr).alloc (Nat.le_refl _) _
                  have hobA : Ob (wr.alloc (.cells #[.int .u8 (lb : Int)] 5)) B (.slice va3 ln3 vc3) out := Ow.below hob bal (Nat.le_refl _)
                  have hlA : Lies (wr.alloc (.cells #[.int .u8 (lb : Int)] 5)) (some ⟨H, 0, none⟩) [lb] := lies_one wr H lb hH
                  have A2 : Aside (Below B w (wr.alloc (.cells #[.int .u8 (lb : Int)] 5))) := AY.out.2.2.2.trans (bal.mono hob.le)
                  clear bal hob
                  go_wp2_with (at_builtin; refine wpList_ob _ rfl (.tmp 52) (.tmp 61) rfl B (.slice va3 ln3 vc3) out (by rfl) hobA (some ⟨H, 0, none⟩) [lb] 1 1 rfl (by rfl) (by intro h; cases h) hlA AL.out ?_; intro v6 w6 hap)
                  have ay := AY.out
                  go_roundg (gk - 1)
                  case measure => omega
                  case rel =>
                    refine ⟨1, by go_num, by omega, out ++ [lb], hap.ow, ?_, A2.out.trans hap.ap.bel⟩
                    rw [ay.2.2.1, List.append_assoc, ← AI.out]
                    rfl
                · obtain ⟨ix, hix⟩ : ∃ ix : Nat, x % 4 * 16 + y / 16 = ix := ⟨_, rfl⟩
                  have hib : ix < 64 := by have := AV.out; omega
                  have hd : (v : Int) / 4096 % 64 = (ix : Int) := by have := AV.out; omega
                  obtain ⟨lb, hlb⟩ : ∃ lb, lt ix = lb := ⟨_, rfl⟩
                  have hlet : ∀ p, ((ByteArray.mk #[65, 66, 67, 68, 69, 70, 71, 72, 73, 74, 75, 76, 77, 78, 79, 80, 81, 82, 83, 84, 85, 86, 87, 88, 89, 90, 97, 98, 99, 100, 101, 102, 103, 104, 105, 106, 107, 108, 109, 110, 111, 112, 113, 114, 115, 116, 117, 118, 119, 120, 121, 122, 48, 49, 50, 51, 52, 53, 54, 55, 56, 57, 43, 47])[ix]'p).toNat = lb := fun p => by rw [let_at ix hib]; exact hlb
                  have hib2 : (ix : Int) < 64 := by omega
                  have AI : Aside (lt (x % 4 * 16 + y / 16) = lb) := (show _ = _ by rw [hix]; exact hlb)
                  have hlbb : lb < 256 := by rw [← hlb]; exact lt_oct ix hib
                  clear hix hlb hk
                  have bal : Below wr.heap.size wr (wr.alloc (.cells #[.int .u8 (lb : Int)] 5)) := (Below.refl _ wr).alloc (Nat.le_refl _) _
                  have hobA : Ob (wr.alloc (.cells #[.int .u8 (lb : Int)] 5)) B (.slice va3 ln3 vc3) out := Ow.below hob bal (Nat.le_refl _)
                  have hlA : Lies (wr.alloc (.cells #[.int .u8 (lb : Int)] 5)) (some ⟨H, 0, none⟩) [lb] := lies_one wr H lb hH
                  have A2 : Aside (Below B w (wr.alloc (.cells #[.int .u8 (lb : Int)] 5))) := AY.out.2.2.2.trans (bal.mono hob.le)
                  clear bal hob
                  go_wp2_with (at_builtin; refine wpList_ob _ rfl (.tmp 52) (.tmp 61) rfl B (.slice va3 ln3 vc3) out (by rfl) hobA (some ⟨H, 0, none⟩) [lb] 1 1 rfl (by rfl) (by intro h; cases h) hlA AL.out ?_; intro v6 w6 hap)
                  have ay := AY.out
                  go_roundg (gk - 1)
                  case measure => omega
                  case rel =>
                    refine ⟨2, by go_num, by omega, out ++ [lb], hap.ow, ?_, A2.out.trans hap.ap.bel⟩
                    rw [ay.2.2.1, List.append_assoc, ← AI.out]
                    rfl
                · obtain ⟨lb, hlb⟩ : ∃ lb : Nat, 61 = lb := ⟨_, rfl⟩
                  have AI : Aside (61 = lb) := hlb
                  clear hlb hk
                  have bal : Below wr.heap.size wr (wr.alloc (.cells #[.int .u8 61] 5)) := (Below.refl _ wr).alloc (Nat.le_refl _) _
                  have hobA : Ob (wr.alloc (.cells #[.int .u8 61] 5)) B (.slice va3 ln3 vc3) out := Ow.below hob bal (Nat.le_refl _)
                  have hlA : Lies (wr.alloc (.cells #[.int .u8 61] 5)) (some ⟨H, 0, none⟩) [61] := lies_one wr H 61 hH
                  have A2 : Aside (Below B w (wr.alloc (.cells #[.int .u8 61] 5))) := AY.out.2.2.2.trans (bal.mono hob.le)
                  clear bal hob
                  go_wp2_with (at_builtin; refine wpList_ob _ rfl (.tmp 49) (.tmp 50) rfl B (.slice va3 ln3 vc3) out (by rfl) hobA (some ⟨H, 0, none⟩) [61] 1 1 rfl (by rfl) (by intro h; cases h) hlA AL.out ?_; intro v6 w6 hap)
                  have ay := AY.out
                  go_roundg (gk - 1)
                  case measure => omega
                  case rel =>
                    refine ⟨3, by go_num, by omega, out ++ [61], hap.ow, ?_, A2.out.trans hap.ap.bel⟩
                    rw [ay.2.2.1, List.append_assoc]
                    rfl
                · obtain ⟨lb, hlb⟩ : ∃ lb : Nat, 61 = lb := ⟨_, rfl⟩
                  have AI : Aside (61 = lb) := hlb
                  clear hlb hk
                  have bal : Below wr.heap.size wr (wr.alloc (.cells #[.int .u8 61] 5)) := (Below.refl _ wr).alloc (Nat.le_refl _) _
                  have hobA : Ob (wr.alloc (.cells #[.int .u8 61] 5)) B (.slice va3 ln3 vc3) out := Ow.below hob bal (Nat.le_refl _)
                  have hlA : Lies (wr.alloc (.cells #[.int .u8 61] 5)) (some ⟨H, 0, none⟩) [61] := lies_one wr H 61 hH
                  have A2 : Aside (Below B w (wr.alloc (.cells #[.int .u8 61] 5))) := AY.out.2.2.2.trans (bal.mono hob.le)
                  clear bal hob
                  go_wp2_with (at_builtin; refine wpList_ob _ rfl (.tmp 49) (.tmp 50) rfl B (.slice va3 ln3 vc3) out (by rfl) hobA (some ⟨H, 0, none⟩) [61] 1 1 rfl (by rfl) (by intro h; cases h) hlA AL.out ?_; intro v6 w6 hap)
                  have ay := AY.out
                  go_roundg (gk - 1)
                  case measure => omega
                  case rel =>
                    refine ⟨4, by go_num, by omega, out ++ [61], hap.ow, ?_, A2.out.trans hap.ap.bel⟩
                    rw [ay.2.2.1, List.append_assoc]
                    rfl
              · rcases (show k = 0 ∨ k = 1 ∨ k = 2 ∨ k = 3 by omega) with rfl | rfl | rfl | rfl
                · obtain ⟨ix, hix⟩ : ∃ ix : Nat, x / 4 = ix := ⟨_, rfl⟩
                  have hib : ix < 64 := by have := AV.out; omega
                  have hd : (v : Int) / 262144 % 64 = (ix : Int) := by have := AV.out; omega
                  obtain ⟨lb, hlb⟩ : ∃ lb, lt ix = lb := ⟨_, rfl⟩
                  have hlet : ∀ p, ((ByteArray.mk #[65, 66, 67, 68, 69, 70, 71, 72, 73, 74, 75, 76, 77, 78, 79, 80, 81, 82, 83, 84, 85, 86, 87, 88, 89, 90, 97, 98, 99, 100, 101, 102, 103, 104, 105, 106, 107, 108, 109, 110, 111, 112, 113, 114, 115, 116, 117, 118, 119, 120, 121, 122, 48, 49, 50, 51, 52, 53, 54, 55, 56, 57, 43, 47])[ix]'p).toNat = lb := fun p => by rw [let_at ix hib]; exact hlb
                  have hib2 : (ix : Int) < 64 := by omega
                  have AI : Aside (lt (x / 4) = lb) := (show _ = _ by rw [hix]; exact hlb)
                  have hlbb : lb < 256 := by rw [← hlb]; exact lt_oct ix hib
                  clear hix hlb hk
                  have bal : Below wr.heap.size wr (wr.alloc (.cells #[.int .u8 (lb : Int)] 5)) := (Below.refl _ wr).alloc (Nat.le_refl _) _
                  have hobA : Ob (wr.alloc (.cells #[.int .u8 (lb : Int)] 5)) B (.slice va3 ln3 vc3) out := Ow.below hob bal (Nat.le_refl _)
                  have hlA : Lies (wr.alloc (.cells #[.int .u8 (lb : Int)] 5)) (some ⟨H, 0, none⟩) [lb] := lies_one wr H lb hH
                  have A2 : Aside (Below B w (wr.alloc (.cells #[.int .u8 (lb : Int)] 5))) := AY.out.2.2.2.trans (bal.mono hob.le)
                  clear bal hob
                  go_wp2_with (at_builtin; refine wpList_ob _ rfl (.tmp 52) (.tmp 61) rfl B (.slice va3 ln3 vc3) out (by rfl) hobA (some ⟨H, 0, none⟩) [lb] 1 1 rfl (by rfl) (by intro h; cases h) hlA AL.out ?_; intro v6 w6 hap)
                  have ay := AY.out
                  go_roundg (gk - 1)
                  case measure => omega
                  case rel =>
                    refine ⟨1, by go_num, by omega, out ++ [lb], hap.ow, ?_, A2.out.trans hap.ap.bel⟩
                    rw [ay.2.2.1, List.append_assoc, ← AI.out]
                    rfl
                · obtain ⟨ix, hix⟩ : ∃ ix : Nat, x % 4 * 16 + y / 16 = ix := ⟨_, rfl⟩
                  have hib : ix < 64 := by have := AV.out; omega
                  have hd : (v : Int) / 4096 % 64 = (ix : Int) := by have := AV.out; omega
                  obtain ⟨lb, hlb⟩ : ∃ lb, lt ix = lb := ⟨_, rfl⟩
                  have hlet : ∀ p, ((ByteArray.mk #[65, 66, 67, 68, 69, 70, 71, 72, 73, 74, 75, 76, 77, 78, 79, 80, 81, 82, 83, 84, 85, 86, 87, 88, 89, 90, 97, 98, 99, 100, 101, 102, 103, 104, 105, 106, 107, 108, 109, 110, 111, 112, 113, 114, 115, 116, 117, 118, 119, 120, 121, 122, 48, 49, 50, 51, 52, 53, 54, 55, 56, 57, 43, 47])[ix]'p).toNat = lb := fun p => by rw [let_at ix hib]; exact hlb
                  have hib2 : (ix : Int) < 64 := by omega
                  have AI : Aside (lt (x % 4 * 16 + y / 16) = lb) := (show _ = _ by rw [hix]; exact hlb)
                  have hlbb : lb < 256 := by rw [← hlb]; exact lt_oct ix hib
                  clear hix hlb hk
                  have bal : Below wr.heap.size wr (wr.alloc (.cells #[.int .u8 (lb : Int)] 5)) := (Below.refl _ wr).alloc (Nat.le_refl _) _
                  have hobA : Ob (wr.alloc (.cells #[.int .u8 (lb : Int)] 5)) B (.slice va3 ln3 vc3) out := Ow.below hob bal (Nat.le_refl _)
                  have hlA : Lies (wr.alloc (.cells #[.int .u8 (lb : Int)] 5)) (some ⟨H, 0, none⟩) [lb] := lies_one wr H lb hH
                  have A2 : Aside (Below B w (wr.alloc (.cells #[.int .u8 (lb : Int)] 5))) := AY.out.2.2.2.trans (bal.mono hob.le)
                  clear bal hob
                  go_wp2_with (at_builtin; refine wpList_ob _ rfl (.tmp 52) (.tmp 61) rfl B (.slice va3 ln3 vc3) out (by rfl) hobA (some ⟨H, 0, none⟩) [lb] 1 1 rfl (by rfl) (by intro h; cases h) hlA AL.out ?_; intro v6 w6 hap)
                  have ay := AY.out
                  go_roundg (gk - 1)
                  case measure => omega
                  case rel =>
                    refine ⟨2, by go_num, by omega, out ++ [lb], hap.ow, ?_, A2.out.trans hap.ap.bel⟩
                    rw [ay.2.2.1, List.append_assoc, ← AI.out]
                    rfl
                · obtain ⟨ix, hix⟩ : ∃ ix : Nat, y % 16 * 4 + z / 64 = ix := ⟨_, rfl⟩
                  have hib : ix < 64 := by have := AV.out; omega
                  have hd : (v : Int) / 64 % 64 = (ix : Int) := by have := AV.out; omega
                  obtain ⟨lb, hlb⟩ : ∃ lb, lt ix = lb := ⟨_, rfl⟩
                  have hlet : ∀ p, ((ByteArray.mk #[65, 66, 67, 68, 69, 70, 71, 72, 73, 74, 75, 76, 77, 78, 79, 80, 81, 82, 83, 84, 85, 86, 87, 88, 89, 90, 97, 98, 99, 100, 101, 102, 103, 104, 105, 106, 107, 108, 109, 110, 111, 112, 113, 114, 115, 116, 117, 118, 119, 120, 121, 122, 48, 49, 50, 51, 52, 53, 54, 55, 56, 57, 43, 47])[ix]'p).toNat = lb := fun p => by rw [let_at ix hib]; exact hlb
                  have hib2 : (ix : Int) < 64 := by omega
                  have AI : Aside (lt (y % 16 * 4 + z / 64) = lb) := (show _ = _ by rw [hix]; exact hlb)
                  have hlbb : lb < 256 := by rw [← hlb]; exact lt_oct ix hib
                  clear hix hlb hk
                  have bal : Below wr.heap.size wr (wr.alloc (.cells #[.int .u8 (lb : Int)] 5)) := (Below.refl _ wr).alloc (Nat.le_refl _) _
                  have hobA : Ob (wr.alloc (.cells #[.int .u8 (lb : Int)] 5)) B (.slice va3 ln3 vc3) out := Ow.below hob bal (Nat.le_refl _)
                  have hlA : Lies (wr.alloc (.cells #[.int .u8 (lb : Int)] 5)) (some ⟨H, 0, none⟩) [lb] := lies_one wr H lb hH
                  have A2 : Aside (Below B w (wr.alloc (.cells #[.int .u8 (lb : Int)] 5))) := AY.out.2.2.2.trans (bal.mono hob.le)
                  clear bal hob
                  go_wp2_with (at_builtin; refine wpList_ob _ rfl (.tmp 52) (.tmp 61) rfl B (.slice va3 ln3 vc3) out (by rfl) hobA (some ⟨H, 0, none⟩) [lb] 1 1 rfl (by rfl) (by intro h; cases h) hlA AL.out ?_; intro v6 w6 hap)
                  have ay := AY.out
                  go_roundg (gk - 1)
                  case measure => omega
                  case rel =>
                    refine ⟨3, by go_num, by omega, out ++ [lb], hap.ow, ?_, A2.out.trans hap.ap.bel⟩
                    rw [ay.2.2.1, List.append_assoc, ← AI.out]
                    rfl
                · obtain ⟨lb, hlb⟩ : ∃ lb : Nat, 61 = lb := ⟨_, rfl⟩
                  have AI : Aside (61 = lb) := hlb
                  clear hlb hk
                  have bal : Below wr.heap.size wr (wr.alloc (.cells #[.int .u8 61] 5)) := (Below.refl _ wr).alloc (Nat.le_refl _) _
                  have hobA : Ob (wr.alloc (.cells #[.int .u8 61] 5)) B (.slice va3 ln3 vc3) out := Ow.below hob bal (Nat.le_refl _)
                  have hlA : Lies (wr.alloc (.cells #[.int .u8 61] 5)) (some ⟨H, 0, none⟩) [61] := lies_one wr H 61 hH
                  have A2 : Aside (Below B w (wr.alloc (.cells #[.int .u8 61] 5))) := AY.out.2.2.2.trans (bal.mono hob.le)
                  clear bal hob
                  go_wp2_with (at_builtin; refine wpList_ob _ rfl (.tmp 49) (.tmp 50) rfl B (.slice va3 ln3 vc3) out (by rfl) hobA (some ⟨H, 0, none⟩) [61] 1 1 rfl (by rfl) (by intro h; cases h) hlA AL.out ?_; intro v6 w6 hap)
                  have ay := AY.out
                  go_roundg (gk - 1)
                  case measure => omega
                  case rel =>
                    refine ⟨4, by go_num, by omega, out ++ [61], hap.ow, ?_, A2.out.trans hap.ap.bel⟩
                    rw [ay.2.2.1, List.append_assoc]
                    rfl
              · rcases (show k = 0 ∨ k = 1 ∨ k = 2 ∨ k = 3 by omega) with rfl | rfl | rfl | rfl
                · obtain ⟨ix, hix⟩ : ∃ ix : Nat, x / 4 = ix := ⟨_, rfl⟩
                  have hib : ix < 64 := by have := AV.out; omega
                  have hd : (v : Int) / 262144 % 64 = (ix : Int) := by have := AV.out; omega
                  obtain ⟨lb, hlb⟩ : ∃ lb, lt ix = lb := ⟨_, rfl⟩
                  have hlet : ∀ p, ((ByteArray.mk #[65, 66, 67, 68, 69, 70, 71, 72, 73, 74, 75, 76, 77, 78, 79, 80, 81, 82, 83, 84, 85, 86, 87, 88, 89, 90, 97, 98, 99, 100, 101, 102, 103, 104, 105, 106, 107, 108, 109, 110, 111, 112, 113, 114, 115, 116, 117, 118, 119, 120, 121, 122, 48, 49, 50, 51, 52, 53, 54, 55, 56, 57, 43, 47])[ix]'p).toNat = lb := fun p => by rw [let_at ix hib]; exact hlb
                  have hib2 : (ix : Int) < 64 := by omega
                  have AI : Aside (lt (x / 4) = lb) := (show _ = _ by rw [hix]; exact hlb)
                  have hlbb : lb < 256 := by rw [← hlb]; exact lt_oct ix hib
                  clear hix hlb hk
                  have bal : Below wr.heap.size wr (wr.alloc (.cells #[.int .u8 (lb : Int)] 5)) := (Below.refl _ wr).alloc (Nat.le_refl _) _
                  have hobA : Ob (wr.alloc (.cells #[.int .u8 (lb : Int)] 5)) B (.slice va3 ln3 vc3) out := Ow.below hob bal (Nat.le_refl _)
                  have hlA : Lies (wr.alloc (.cells #[.int .u8 (lb : Int)] 5)) (some ⟨H, 0, none⟩) [lb] := lies_one wr H lb hH
                  have A2 : Aside (Below B w (wr.alloc (.cells #[.int .u8 (lb : Int)] 5))) := AY.out.2.2.2.trans (bal.mono hob.le)
                  clear bal hob
                  go_wp2_with (at_builtin; refine wpList_ob _ rfl (.tmp 52) (.tmp 61) rfl B (.slice va3 ln3 vc3) out (by rfl) hobA (some ⟨H, 0, none⟩) [lb] 1 1 rfl (by rfl) (by intro h; cases h) hlA AL.out ?_; intro v6 w6 hap)
                  have ay := AY.out
                  go_roundg (gk - 1)
                  case measure => omega
                  case rel =>
                    refine ⟨1, by go_num, by omega, out ++ [lb], hap.ow, ?_, A2.out.trans hap.ap.bel⟩
                    rw [ay.2.2.1, List.append_assoc, ← AI.out]
                    rfl
                · obtain ⟨ix, hix⟩ : ∃ ix : Nat, x % 4 * 16 + y / 16 = ix := ⟨_, rfl⟩
                  have hib : ix < 64 := by have := AV.out; omega
                  have hd : (v : Int) / 4096 % 64 = (ix : Int) := by have := AV.out; omega
                  obtain ⟨lb, hlb⟩ : ∃ lb, lt ix = lb := ⟨_, rfl⟩
                  have hlet : ∀ p, ((ByteArray.mk #[65, 66, 67, 68, 69, 70, 71, 72, 73, 74, 75, 76, 77, 78, 79, 80, 81, 82, 83, 84, 85, 86, 87, 88, 89, 90, 97, 98, 99, 100, 101, 102, 103, 104, 105, 106, 107, 108, 109, 110, 111, 112, 113, 114, 115, 116, 117, 118, 119, 120, 121, 122, 48, 49, 50, 51, 52, 53, 54, 55, 56, 57, 43, 47])[ix]'p).toNat = lb := fun p => by rw [let_at ix hib]; exact hlb
                  have hib2 : (ix : Int) < 64 := by omega
                  have AI : Aside (lt (x % 4 * 16 + y / 16) = lb) := (show _ = _ by rw [hix]; exact hlb)
                  have hlbb : lb < 256 := by rw [← hlb]; exact lt_oct ix hib
                  clear hix hlb hk
                  have bal : Below wr.heap.size wr (wr.alloc (.cells #[.int .u8 (lb : Int)] 5)) := (Below.refl _ wr).alloc (Nat.le_refl _) _
                  have hobA : Ob (wr.alloc (.cells #[.int .u8 (lb : Int)] 5)) B (.slice va3 ln3 vc3) out := Ow.below hob bal (Nat.le_refl _)
                  have hlA : Lies (wr.alloc (.cells #[.int .u8 (lb : Int)] 5)) (some ⟨H, 0, none⟩) [lb] := lies_one wr H lb hH
                  have A2 : Aside (Below B w (wr.alloc (.cells #[.int .u8 (lb : Int)] 5))) := AY.out.2.2.2.trans (bal.mono hob.le)
                  clear bal hob
                  go_wp2_with (at_builtin; refine wpList_ob _ rfl (.tmp 52) (.tmp 61) rfl B (.slice va3 ln3 vc3) out (by rfl) hobA (some ⟨H, 0, none⟩) [lb] 1 1 rfl (by rfl) (by intro h; cases h) hlA AL.out ?_; intro v6 w6 hap)
                  have ay := AY.out
                  go_roundg (gk - 1)
                  case measure => omega
                  case rel =>
                    refine ⟨2, by go_num, by omega, out ++ [lb], hap.ow, ?_, A2.out.trans hap.ap.bel⟩
                    rw [ay.2.2.1, List.append_assoc, ← AI.out]
                    rfl
                · obtain ⟨ix, hix⟩ : ∃ ix : Nat, y % 16 * 4 + z / 64 = ix := ⟨_, rfl⟩
                  have hib : ix < 64 := by have := AV.out; omega
                  have hd : (v : Int) / 64 % 64 = (ix : Int) := by have := AV.out; omega
                  obtain ⟨lb, hlb⟩ : ∃ lb, lt ix = lb := ⟨_, rfl⟩
                  have hlet : ∀ p, ((ByteArray.mk #[65, 66, 67, 68, 69, 70, 71, 72, 73, 74, 75, 76, 77, 78, 79, 80, 81, 82, 83, 84, 85, 86, 87, 88, 89, 90, 97, 98, 99, 100, 101, 102, 103, 104, 105, 106, 107, 108, 109, 110, 111, 112, 113, 114, 115, 116, 117, 118, 119, 120, 121, 122, 48, 49, 50, 51, 52, 53, 54, 55, 56, 57, 43, 47])[ix]'p).toNat = lb := fun p => by rw [let_at ix hib]; exact hlb
                  have hib2 : (ix : Int) < 64 := by omega
                  have AI : Aside (lt (y % 16 * 4 + z / 64) = lb) := (show _ = _ by rw [hix]; exact hlb)
                  have hlbb : lb < 256 := by rw [← hlb]; exact lt_oct ix hib
                  clear hix hlb hk
                  have bal : Below wr.heap.size wr (wr.alloc (.cells #[.int .u8 (lb : Int)] 5)) := (Below.refl _ wr).alloc (Nat.le_refl _) _
                  have hobA : Ob (wr.alloc (.cells #[.int .u8 (lb : Int)] 5)) B (.slice va3 ln3 vc3) out := Ow.below hob bal (Nat.le_refl _)
                  have hlA : Lies (wr.alloc (.cells #[.int .u8 (lb : Int)] 5)) (some ⟨H, 0, none⟩) [lb] := lies_one wr H lb hH
                  have A2 : Aside (Below B w (wr.alloc (.cells #[.int .u8 (lb : Int)] 5))) := AY.out.2.2.2.trans (bal.mono hob.le)
                  clear bal hob
                  go_wp2_with (at_builtin; refine wpList_ob _ rfl (.tmp 52) (.tmp 61) rfl B (.slice va3 ln3 vc3) out (by rfl) hobA (some ⟨H, 0, none⟩) [lb] 1 1 rfl (by rfl) (by intro h; cases h) hlA AL.out ?_; intro v6 w6 hap)
                  have ay := AY.out
                  go_roundg (gk - 1)
                  case measure => omega
                  case rel =>
                    refine ⟨3, by go_num, by omega, out ++ [lb], hap.ow, ?_, A2.out.trans hap.ap.bel⟩
                    rw [ay.2.2.1, List.append_assoc, ← AI.out]
                    rfl
                · obtain ⟨ix, hix⟩ : ∃ ix : Nat, z % 64 = ix := ⟨_, rfl⟩
                  have hib : ix < 64 := by have := AV.out; omega
                  have hd : (v : Int) % 64 = (ix : Int) := by have := AV.out; omega
                  obtain ⟨lb, hlb⟩ : ∃ lb, lt ix = lb := ⟨_, rfl⟩
                  have hlet : ∀ p, ((ByteArray.mk #[65, 66, 67, 68, 69, 70, 71, 72, 73, 74, 75, 76, 77, 78, 79, 80, 81, 82, 83, 84, 85, 86, 87, 88, 89, 90, 97, 98, 99, 100, 101, 102, 103, 104, 105, 106, 107, 108, 109, 110, 111, 112, 113, 114, 115, 116, 117, 118, 119, 120, 121, 122, 48, 49, 50, 51, 52, 53, 54, 55, 56, 57, 43, 47])[ix]'p).toNat = lb := fun p => by rw [let_at ix hib]; exact hlb
                  have hib2 : (ix : Int) < 64 := by omega
                  have AI : Aside (lt (z % 64) = lb) := (show _ = _ by rw [hix]; exact hlb)
                  have hlbb : lb < 256 := by rw [← hlb]; exact lt_oct ix hib
                  clear hix hlb hk
                  have bal : Below wr.heap.size wr (wr.alloc (.cells #[.int .u8 (lb : Int)] 5)) := (Below.refl _ wr).alloc (Nat.le_refl _) _
                  have hobA : Ob (wr.alloc (.cells #[.int .u8 (lb : Int)] 5)) B (.slice va3 ln3 vc3) out := Ow.below hob bal (Nat.le_refl _)
                  have hlA : Lies (wr.alloc (.cells #[.int .u8 (lb : Int)] 5)) (some ⟨H, 0, none⟩) [lb] := lies_one wr H lb hH
                  have A2 : Aside (Below B w (wr.alloc (.cells #[.int .u8 (lb : Int)] 5))) := AY.out.2.2.2.trans (bal.mono hob.le)
                  clear bal hob
                  go_wp2_with (at_builtin; refine wpList_ob _ rfl (.tmp 52) (.tmp 61) rfl B (.slice va3 ln3 vc3) out (by rfl) hobA (some ⟨H, 0, none⟩) [lb] 1 1 rfl (by rfl) (by intro h; cases h) hlA AL.out ?_; intro v6 w6 hap)
                  have ay := AY.out
                  go_roundg (gk - 1)
                  case measure => omega
                  case rel =>
                    refine ⟨4, by go_num, by omega, out ++ [lb], hap.ow, ?_, A2.out.trans hap.ap.bel⟩
                    rw [ay.2.2.1, List.append_assoc, ← AI.out]
                    rfl
            · obtain rfl : k = 4 := by omega
              have AY : Aside (out = acc ++ grp x y z q ∧ Below B w wr ∧ Ob wr B (.slice va3 ln3 vc3) out) := ⟨by rw [hout]; rfl, hbel, hob⟩
              clear hJ hkg hout hbel hln3 hob hn13 hvb hk
              go_wp2_with fail
              have ax := AX.out
              have ay := AY.out
              go_roundg (G - 3)
              case measure => omega
              case rel =>
                refine ⟨i + 3, by go_num, by omega, by omega, out, ay.2.2, ?_, ay.2.1⟩
                rw [ay.1, ← ax.2.2.2.1, ax.2.2.2.2.2.1]
                simp
    · have t1 : ((i : Int) < (L : Int)) = False := eq_false (by omega)
      have t1' : (i < L) = False := eq_false hi
      have hnil : l.drop i = [] := List.drop_eq_nil_of_le (by omega)
      rw [hnil] at hacc
      have hacc2 : acc = enc l := by simpa [enc] using hacc
      have hbl : ln ≤ 10000000 := by
        rw [← hln, hacc2, hel, a0.2.1]
        omega
      by_cases hli : line ≤ 0
      · have t2 : (line ≤ 0) = True := eq_true hli
        have AY : Aside (Below B w w5 ∧ Ob w5 B (.slice va ln vc) acc ∧ wri l line = acc) := ⟨hbel, hob, by unfold wri; rw [if_pos hli, hacc2]⟩
        clear hI hig hi2 hacc hbel a0 hvc hlies hvn hln hsum hi hel hob hbl hnil hacc2
        go_wp2_with fail
        go_ret
        have ay := AY.out
        refine ⟨.slice va ln vc, rfl, ?_, ay.1⟩
        rw [ay.2.2]
        exact ay.2.1
      · have t2 : (line ≤ 0) = False := eq_false hli
        have AM : Aside (acc = enc l ∧ ln ≤ 10000000 ∧ Below B w w5 ∧ Lies w5 va acc ∧ acc.length = ln ∧ Ob w5 B (.slice va ln vc) acc ∧ ¬ line ≤ 0 ∧ line < 9223372036854775808) := ⟨hacc2, hbl, hbel, hlies, hln, hob, hli, a0.2.2.2.2.1⟩
        clear hI hig hi2 hacc hbel a0 hvc hlies hvn hln hsum hi hel hob hbl hnil hacc2 hli
        go_wp2_with fail
        obtain ⟨hacc2, hbl, hbel, hlies, hln, hob, hli, hlnx⟩ := AM.out
        obtain ⟨nl, hnl⟩ : ∃ nl : Nat, line = (nl : Int) := ⟨line.toNat, by omega⟩
        subst hnl
        obtain ⟨B4, hB4⟩ : ∃ B4, w5.heap.size = B4 := ⟨_, rfl⟩
        have hln0 : (nl : Int) ≠ 0 := by omega
        have hlnb : (nl : Int) < 9223372036854775808 := by omega
        have hlb : (ln : Int) ≤ 10000000 := by omega
        have hl5 : Lies w5 va acc := hlies
        have AY : Aside (Below B w w5 ∧ wri l (nl : Int) = dbrk nl 0 acc ∧ Lies w5 va acc ∧ acc.length = ln ∧ w5.heap.size = B4 ∧ B ≤ B4 ∧ 0 < nl ∧ ln ≤ 10000000) := ⟨hbel, by unfold wri; rw [if_neg (by omega), hacc2]; simp, hlies, hln, hB4, by rw [← hB4]; exact hob.le, by omega, hbl⟩
        clear hbel hlies hln hob hbl hacc2 hl5 hB4 hli AM hlnx t1 t1' t2
        go_loopg [11, 12] ln (fun gg s11 s12 wq => ∃ j : Nat, s12 = .int .i64 (j : Int) ∧ Aside (j + gg = ln ∧ ∃ out, Ob wq B4 s11 out ∧ out ++ dbrk nl j (acc.drop j) = dbrk nl 0 acc ∧ Below B4 w5 wq))
        case atStart => exact ⟨0, rfl, by omega, [], Ow.nil (by have := AY.out; omega), rfl, Below.refl _ _⟩
        case round =>
          obtain ⟨j, rfl, hJ⟩ := hrel
          obtain ⟨hjg, out, hob, hout, hbel⟩ := hJ.out
          have ay := AY.out
          obtain ⟨va3, vc3, hv3, _, _, _⟩ := hob.shape
          obtain ⟨ln3, hln3⟩ : ∃ ln, out.length = ln := ⟨_, rfl⟩
          rw [hln3] at hv3
          subst hv3
          have hdl := dbrk_len nl acc 0
          have hsum2 : out.length + (dbrk nl j (acc.drop j)).length ≤ 3 * ln := by
            have := congrArg List.length hout
            rw [List.length_append] at this
            omega
          by_cases hj : j < ln
          · have t1 : ((j : Int) < (ln : Int)) = True := eq_true (by omega)
            have t1' : (j < ln) = True := eq_true hj
            have hjI : (j : Int) < 10000000 := by omega
            obtain ⟨x, hx⟩ : ∃ x, acc[j]? = some x := ⟨_, List.getElem?_eq_getElem (by omega)⟩
            obtain ⟨ab, ao, ha, hcB⟩ : ∃ ab ao, va = some ⟨ab, ao, none⟩ ∧ wr.cell? ⟨ab, ao + j, none⟩ = some (.int .u8 (x : Int)) := by
              rcases ay.2.2.1.below (by rw [ay.2.2.2.2.1]; exact hbel) with e | ⟨ab, ao, e, h⟩
              · rw [e] at hx; simp at hx
              · exact ⟨ab, ao, e, h j x hx⟩
            subst ha
            have hdm := drop_more hx
            rw [hdm] at hout hsum2
            have hd2 : dbrk nl j (x :: acc.drop (j + 1)) = (if 0 < j ∧ j % nl = 0 then [13, 10] else []) ++ x :: dbrk nl (j + 1) (acc.drop (j + 1)) := rfl
            rw [hd2] at hout hsum2
            obtain ⟨H, hH⟩ : ∃ H, wr.heap.size = H := ⟨_, rfl⟩
            obtain ⟨r, hr⟩ : ∃ r, j % nl = r := ⟨_, rfl⟩
            have hrem : Int.tmod (j : Int) (nl : Int) = (r : Int) := by rw [← hr, Int.ofNat_tmod]
            by_cases hbr : 0 < j ∧ j % nl = 0
            · rw [if_pos hbr] at hout hsum2
              simp only [List.length_append, List.length_cons, List.length_nil] at hsum2
              have t2 : ((0 : Int) < (j : Int)) = True := eq_true (by omega)
              have t2' : (0 < j) = True := eq_true hbr.1
              have t2'' : j ≠ 0 := by omega
              obtain rfl : r = 0 := by omega
              have bal : Below wr.heap.size wr (wr.alloc (.cells #[.int .u8 13, .int .u8 10] 5)) := (Below.refl _ wr).alloc (Nat.le_refl _) _
              have hobA : Ob (wr.alloc (.cells #[.int .u8 13, .int .u8 10] 5)) B4 (.slice va3 ln3 vc3) out := Ow.below hob bal (Nat.le_refl _)
              have hlA : Lies (wr.alloc (.cells #[.int .u8 13, .int .u8 10] 5)) (some ⟨H, 0, none⟩) [13, 10] := lies_two wr H 13 10 hH
              have A2 : Aside (Below B4 w5 (wr.alloc (.cells #[.int .u8 13, .int .u8 10] 5)) ∧ out.length + 2 ≤ 140737488355328 ∧ out.length + 3 ≤ 140737488355328) := ⟨hbel.trans (bal.mono hob.le), by omega, by omega⟩
              have AZ : Aside (j + gk = ln ∧ j < ln ∧ out ++ ([13, 10] ++ x :: dbrk nl (j + 1) (acc.drop (j + 1))) = dbrk nl 0 acc ∧ Lies w5 (some ⟨ab, ao, none⟩) acc ∧ acc[j]? = some x ∧ w5.heap.size = B4) := ⟨hjg, hj, hout, ay.2.2.1, hx, ay.2.2.2.2.1⟩
              clear hJ hjg hob hout hbel ay hdl hsum2 hj hx hdm hd2 hr hbr bal hcB hln3
              go_upto_region 27 with (at_builtin; refine wpList_ob _ rfl (.tmp 80) (.tmp 81) rfl B4 (.slice va3 ln3 vc3) out (by rfl) hobA (some ⟨H, 0, none⟩) [13, 10] 2 2 rfl (by rfl) (by intro h; cases h) hlA A2.out.2.1 ?_; intro v6 w6 hap)
              have az := AZ.out
              have bel6 := A2.out.1.trans hap.ap.bel
              have cx : w6.cell? ⟨ab, ao + j, none⟩ = some (.int .u8 (x : Int)) := by
                rcases az.2.2.2.1.below (by rw [az.2.2.2.2.2]; exact bel6) with e | ⟨ab', ao', e, h⟩
                · rw [e] at az; simp at az
                · cases e; exact h j x az.2.2.2.2.1
              obtain ⟨va6, vc6, hv6, _, _, _⟩ := Ob.shape hap.ow
              obtain ⟨ln6, hln6⟩ : ∃ ln6, (out ++ [13, 10]).length = ln6 := ⟨_, rfl⟩
              rw [hln6] at hv6
              subst hv6
              obtain ⟨H6, hH6⟩ : ∃ H6, w6.heap.size = H6 := ⟨_, rfl⟩
              have bal6 : Below w6.heap.size w6 (w6.alloc (.cells #[.int .u8 (x : Int)] 5)) := (Below.refl _ w6).alloc (Nat.le_refl _) _
              have hobB : Ob (w6.alloc (.cells #[.int .u8 (x : Int)] 5)) B4 (.slice va6 ln6 vc6) (out ++ [13, 10]) := Ow.below hap.ow bal6 (Nat.le_refl _)
              have hlB := lies_one w6 H6 x hH6
              have A3 : Aside (Below B4 w5 (w6.alloc (.cells #[.int .u8 (x : Int)] 5)) ∧ (out ++ [13, 10]).length + 1 ≤ 140737488355328) := ⟨bel6.trans (bal6.mono hap.ow.le), by have := A2.out; rw [List.length_append]; simp; omega⟩
              clear az bel6 hap bal6 hobA hlA hln6 t2 t2' t2'' hrem hln0 hH
              go_wp2_with (at_builtin; refine wpList_ob _ rfl (.tmp 83) (.tmp 88) rfl B4 (.slice va6 ln6 vc6) (out ++ [13, 10]) (by rfl) hobB (some ⟨H6, 0, none⟩) [x] 1 1 rfl (by rfl) (by intro h; cases h) hlB A3.out.2 ?_; intro v7 w7 hap7)
              have az := AZ.out
              go_roundg (gk - 1)
              case measure => omega
              case rel => exact ⟨j + 1, by go_num, by omega, out ++ [13, 10] ++ [x], hap7.ow, by rw [← az.2.2.1]; simp, A3.out.1.trans hap7.ap.bel⟩
            · rw [if_neg hbr] at hout hsum2
              simp only [List.length_cons, List.nil_append] at hout hsum2
              have bal : Below wr.heap.size wr (wr.alloc (.cells #[.int .u8 (x : Int)] 5)) := (Below.refl _ wr).alloc (Nat.le_refl _) _
              have hobA : Ob (wr.alloc (.cells #[.int .u8 (x : Int)] 5)) B4 (.slice va3 ln3 vc3) out := Ow.below hob bal (Nat.le_refl _)
              have hlA := lies_one wr H x hH
              have A2 : Aside (Below B4 w5 (wr.alloc (.cells #[.int .u8 (x : Int)] 5)) ∧ out.length + 1 ≤ 140737488355328) := ⟨hbel.trans (bal.mono hob.le), by omega⟩
              have AZ : Aside (j + gk = ln ∧ j < ln ∧ out ++ x :: dbrk nl (j + 1) (acc.drop (j + 1)) = dbrk nl 0 acc) := ⟨hjg, hj, hout⟩
              by_cases hj0 : 0 < j
              · have t2 : ((0 : Int) < (j : Int)) = True := eq_true (by omega)
                have t2' : (0 < j) = True := eq_true hj0
                have t2'' : j ≠ 0 := by omega
                have hr0 : r ≠ 0 := by omega
                have t3 : ((r : Int) == 0) = false := by rw [beq_eq_false_iff_ne]; omega
                have t3' : ((r : Int) = 0) = False := eq_false (by omega)
                clear hJ hjg hob hout hbel ay hdl hsum2 hj hx hdm hd2 hr hbr bal hln3
                go_wp2_with (at_builtin; refine wpList_ob _ rfl (.tmp 83) (.tmp 88) rfl B4 (.slice va3 ln3 vc3) out (by rfl) hobA (some ⟨H, 0, none⟩) [x] 1 1 rfl (by rfl) (by intro h; cases h) hlA A2.out.2 ?_; intro v7 w7 hap7)
                have az := AZ.out
                go_roundg (gk - 1)
                case measure => omega
                case rel => exact ⟨j + 1, by go_num, by omega, out ++ [x], hap7.ow, by rw [← az.2.2]; simp, A2.out.1.trans hap7.ap.bel⟩
              · obtain rfl : j = 0 := by omega
                clear t1 t1'
                have t1 : ((0 : Int) < (ln : Int)) = True := eq_true (by omega)
                have t1' : (0 < ln) = True := eq_true hj
                have t1'' : ln ≠ 0 := by omega
                simp only [Nat.add_zero] at hcB
                clear hJ hjg hob hout hbel ay hdl hsum2 hj hx hdm hd2 hr hbr bal hln3 hj0 hrem hjI
                go_wp2_with (at_builtin; refine wpList_ob _ rfl (.tmp 83) (.tmp 88) rfl B4 (.slice va3 ln3 vc3) out (by rfl) hobA (some ⟨H, 0, none⟩) [x] 1 1 rfl (by rfl) (by intro h; cases h) hlA A2.out.2 ?_; intro v7 w7 hap7)
                have az := AZ.out
                go_roundg (gk - 1)
                case measure => omega
                case rel => exact ⟨1, by go_num, by omega, out ++ [x], hap7.ow, by rw [← az.2.2]; simp, A2.out.1.trans hap7.ap.bel⟩
          · have t1 : ((j : Int) < (ln : Int)) = False := eq_false (by omega)
            have t1' : (j < ln) = False := eq_false hj
            have hnil : acc.drop j = [] := List.drop_eq_nil_of_le (by omega)
            rw [hnil] at hout
            have hfin : out = dbrk nl 0 acc := by simpa [dbrk] using hout
            have AZ : Aside (Below B w wr ∧ Ob wr B (.slice va3 ln3 vc3) (wri l (nl : Int))) := ⟨ay.1.trans (hbel.mono ay.2.2.2.2.2.1), by rw [ay.2.1, ← hfin]; exact Ow.lower hob ay.2.2.2.2.2.1⟩
            clear hJ hjg hob hout hbel ay hdl hsum2 hj hnil hfin hln3
            go_wp2_with fail
            go_ret
            have az := AZ.out
            exact ⟨.slice va3 ln3 vc3, rfl, az.2, az.1⟩
end Go.Proofs.Ytmijpocfichfpaa

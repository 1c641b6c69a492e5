/-
  A header as it is written.
-/
import Derived.Test.YtcmmjbkgoafbnaaGreatDoorWdg
import Derived.Test.YtcmmjbkgoafbnaaGreatDoorPutB
import Derived.Test.YtcmmjbkgoafbnaaGreatDoorSumsB
import Derived.Lib.SlBytesConst
namespace Go.Proofs.YtcmmjbkgoafbnaaGreatDoor
open Go.RowKit
set_option linter.unusedVariables false
set_option linter.unusedSimpArgs false
/-- Bytes laid over others from a place on. -/
def ovl (b : List Nat) (k : Nat) (f : List Nat) : List Nat := b.take k ++ f ++ b.drop (k + f.length)
theorem ovl_nil (b : List Nat) (k : Nat) : ovl b k [] = b := by simp [ovl]
theorem ovl_len {b f : List Nat} {k : Nat} (h : k + f.length ≤ b.length) : (ovl b k f).length = b.length := by
  unfold ovl; simp; omega
theorem ovl_step {b f : List Nat} {k i x : Nat} (h : k + f.length ≤ b.length) (hx : f[i]? = some x) : (ovl b k (f.take i)).set (k + i) x = ovl b k (f.take (i + 1)) := by
  have hi := (List.getElem?_eq_some_iff.1 hx).1
  have h1 : (f.take i).length = i := by rw [List.length_take]; omega
  have h2 : (f.take (i + 1)).length = i + 1 := by rw [List.length_take]; omega
  unfold ovl
  rw [h1, h2, List.drop_eq_getElem_cons (show k + i < b.length by omega), take_more2 hx]
  have := set_block (q := []) (P := b.take k ++ f.take i) (x := x) (y := b[k + i]) (l := b.drop (k + i + 1))
  rw [List.length_append, List.length_take, h1, Nat.min_eq_left (by omega)] at this
  rw [this]
  simp
  rw [show k + (i + 1) = k + i + 1 by omega]
theorem ovl_oct {b f : List Nat} {k : Nat} (hb : Oct b) (hf : Oct f) : Oct (ovl b k f) := ((hb.take k).app hf).app (hb.drop _)
def oct12 (n : Nat) : List Nat := hi 8 48 n 11 ++ [0]
def oct8 (n : Nat) : List Nat := hi 8 48 n 7 ++ [0]
def ustar : List Nat := [117, 115, 116, 97, 114]
/-- A header without its sum. -/
def hd0 (name : List Nat) (size kind : Nat) : List Nat := (ovl (ovl (ovl (List.replicate 512 0) 0 (name.take 100)) 124 (oct12 size)) 257 ustar).set 156 kind
/-- A header. -/
def hdr (name : List Nat) (size kind : Nat) : List Nat := ovl (hd0 name size kind) 148 (oct8 (pl (hd0 name size kind) 512).toNat)
theorem oct12_len (n : Nat) : (oct12 n).length = 12 := by simp [oct12, hi_length]
theorem oct8_len (n : Nat) : (oct8 n).length = 8 := by simp [oct8, hi_length]
theorem oct12_oct (n : Nat) : Oct (oct12 n) := Oct.app (fun x hx => by have := hi_mem (by decide) hx; omega) (fun x hx => by simp at hx; omega)
theorem oct8_oct (n : Nat) : Oct (oct8 n) := Oct.app (fun x hx => by have := hi_mem (by decide) hx; omega) (fun x hx => by simp at hx; omega)
theorem hd0_len (name : List Nat) (size kind : Nat) : (hd0 name size kind).length = 512 := by
  have h1 : (ovl (List.replicate 512 0) 0 (name.take 100)).length = 512 := by rw [ovl_len (by rw [List.length_replicate, List.length_take]; omega), List.length_replicate]
  have h2 : (ovl (ovl (List.replicate 512 0) 0 (name.take 100)) 124 (oct12 size)).length = 512 := by rw [ovl_len (by rw [h1, oct12_len]; omega), h1]
  unfold hd0
  rw [List.length_set, ovl_len (by rw [h2]; decide), h2]
theorem hd0_oct {name : List Nat} {size kind : Nat} (hn : Oct name) (hk : kind < 256) : Oct (hd0 name size kind) := (ovl_oct (ovl_oct (ovl_oct (fun x hx => by rw [(List.mem_replicate.1 hx).2]; decide) (hn.take 100)) (oct12_oct size)) (show Oct ustar by unfold Oct ustar; decide)).set _ hk
theorem hdr_len (name : List Nat) (size kind : Nat) : (hdr name size kind).length = 512 := by unfold hdr; rw [ovl_len (by rw [hd0_len, oct8_len]; omega), hd0_len]
theorem hdr_oct {name : List Nat} {size kind : Nat} (hn : Oct name) (hk : kind < 256) : Oct (hdr name size kind) := ovl_oct (hd0_oct hn hk) (oct8_oct _)
theorem put12 {n : Nat} (h : n < 8589934592) : put n 12 = some (oct12 n) := by
  unfold put
  rw [if_neg (by omega)]
  show (if n / 8 ^ 11 = 0 then some (hi 8 48 n 11 ++ [0]) else _) = _
  rw [if_pos (Nat.div_eq_of_lt (by show n < 8589934592; exact h))]
  rfl
theorem put8 {n : Nat} (h : n < 2097152) : put n 8 = some (oct8 n) := by
  unfold put
  rw [if_neg (by omega)]
  show (if n / 8 ^ 7 = 0 then some (hi 8 48 n 7 ++ [0]) else _) = _
  rw [if_pos (Nat.div_eq_of_lt (by show n < 2097152; exact h))]
  rfl
theorem Bk.keep {w u x : World} {G n : Nat} {cs : List Nat} (h : Bk w u G n cs) (k : Below u.heap.size u x) : Bk w x G n cs := ⟨h.bel.trans (k.mono h.bel.size), h.ge, h.cells.below k h.cells.lt, h.len⟩
theorem Bk.fz {w u : World} {G n : Nat} {cs : List Nat} (h : Bk w u G n cs) (i : Nat) : u.frozen? ⟨G, i, none⟩ = false := h.cells.frozen i
/-- Bytes that lie somewhere else stay where the row is written. -/
theorem lies_bk {w u : World} {G n b o : Nat} {cs l : List Nat} (h : Bk w u G n cs) (hc : ∀ (i x : Nat), l[i]? = some x → u.cell? ⟨b, o + i, none⟩ = some (.int .u8 (x : Int))) (hb : b ≠ G) (j : Nat) (v : Value) : ∀ (i x : Nat), l[i]? = some x → (u.setCell ⟨G, j, none⟩ v).cell? ⟨b, o + i, none⟩ = some (.int .u8 (x : Int)) := fun i x hx => by
  rw [((Only.refl G u).setCell j v).cell (show (⟨b, o + i, none⟩ : Addr).block ≠ G from hb)]; exact hc i x hx
set_option maxRecDepth 20000 in
set_option maxHeartbeats 4000000 in
theorem head_c (name : List Nat) (size kind : Nat) (hn : Oct name) (hnl : name.length ≤ 1000) (hs : size < 8589934592) (hk : kind < 256) (w : World) : Calls Tryz.prog 36 #[.string (st name), .int .i64 (size : Int), .int .u8 (kind : Int)] w fun e w' => ∃ G, e = .returned (.slice (some ⟨G, 0, none⟩) 512 512) ∧ Bk w w' G 512 (hdr name size kind) := by
  have hmk := made 512 (by decide) w
  obtain ⟨G, hG⟩ : ∃ G, w.heap.size = G := ⟨_, rfl⟩
  obtain ⟨w1, hw1⟩ : ∃ w1, w.alloc (.cells (vn (List.replicate 512 0)).toArray 5) = w1 := ⟨_, rfl⟩
  have bk1 : Bk w w1 G 512 (List.replicate 512 0) := by rw [← hw1, ← hG]; exact Bk.new w 512
  rw [hw1, hG] at hmk
  obtain ⟨ss, hss⟩ : ∃ ss, st name = ss := ⟨_, rfl⟩
  obtain ⟨L, hL⟩ : ∃ L, name.length = L := ⟨_, rfl⟩
  have zs : ss.size = L := by rw [← hss, st_size, hL]
  rw [hss]
  have A : Aside (Oct name ∧ name.length = L ∧ L ≤ 1000 ∧ st name = ss ∧ size < 8589934592 ∧ kind < 256 ∧ w.heap.size = G) := ⟨hn, hL, by omega, hss, hs, hk, hG⟩
  have A1 : Aside (Bk w w1 G 512 (List.replicate 512 0)) := bk1
  have hmk2 : (Instr.makeSlice 22 (.int .i64 512) (.int .i64 512)).run Tryz.prog w = .ok (.slice (some ⟨G, 0, none⟩) 512 512) w1 := hmk
  clear hn hnl hs hk bk1 hw1 hss hL hG
  go_enter Tryz.func36, Tryz.ntmps36
  go_upto_region 2 with fail
  clear hmk hmk2
  go_upto_block 0 with fail
  go_cut [] (fun wx => Aside (Bk w wx G 512 (ovl (List.replicate 512 0) 0 (name.take 100))))
  case first =>
    go_wp2_with fail
    go_loopg [8] 101 (fun gg s8 wr => ∃ i : Nat, s8 = .int .i64 (i : Int) ∧ Aside (i ≤ 100 ∧ i ≤ L ∧ i + gg = 101 ∧ Bk w wr G 512 (ovl (List.replicate 512 0) 0 ((name.take 100).take i))))
    case atStart => exact ⟨0, rfl, ⟨by omega, by omega, rfl, by rw [List.take_zero, ovl_nil]; exact A1.out⟩⟩
    case round =>
      clear A1
      obtain ⟨i, rfl, hI⟩ := hrel
      obtain ⟨h1, h2, h3, bk⟩ := hI.out
      have a0 := A.out
      by_cases hiL : i < L
      · have t1 : ((i : Int) < (L : Int)) = True := eq_true (by omega)
        have t1n : (i < L) = True := eq_true hiL
        by_cases hi1 : i < 100
        · have t2 : ((i : Int) < 100) = True := eq_true (by omega)
          have t2n : (i < 100) = True := eq_true hi1
          have t3 : (i < 512) = True := eq_true (by omega)
          have t4 : ((i : Int) < 512) = True := eq_true (by omega)
          have bi : (i : Int) < 1000 := by omega
          obtain ⟨x, hx⟩ : ∃ x, name[i]? = some x := ⟨_, List.getElem?_eq_getElem (by omega)⟩
          have hx0 : ∀ h : i < ss.size, (ss[i]'h).toNat = x := by rw [← a0.2.2.2.1]; exact fun h => st_get a0.1 hx h
          have hxt : (name.take 100)[i]? = some x := by rw [List.getElem?_take, if_pos hi1]; exact hx
          have hlen := bk.len
          obtain ⟨y, hy⟩ : ∃ y, (ovl (List.replicate 512 0) 0 ((name.take 100).take i))[i]? = some y := ⟨_, List.getElem?_eq_getElem (by omega)⟩
          have c1 := bk.cell hy
          have f1 := bk.fz i
          have AG : Aside (i < 100 ∧ i < L ∧ i + gk = 101 ∧ Bk w (wr.setCell ⟨G, i, none⟩ (.int .u8 (x : Int))) G 512 (ovl (List.replicate 512 0) 0 ((name.take 100).take (i + 1)))) := by
            refine ⟨hi1, hiL, h3, ?_⟩
            have := bk.set i x
            have e := ovl_step (b := List.replicate 512 0) (k := 0) (by rw [List.length_replicate, List.length_take]; omega) hxt
            rw [Nat.zero_add] at e
            rw [e] at this
            exact this
          clear hI h1 h2 h3 bk a0 hiL hi1 hx hxt hlen hy
          go_wp2_with fail
          have ag := AG.out
          go_roundg (gk - 1)
          case measure => omega
          case rel => exact ⟨i + 1, by go_num, ⟨by omega, by omega, by omega, ag.2.2.2⟩⟩
        · have t2 : ((i : Int) < 100) = False := eq_false (by omega)
          have t2n : (i < 100) = False := eq_false hi1
          have AG : Aside (Bk w wr G 512 (ovl (List.replicate 512 0) 0 (name.take 100))) := by
            have := bk
            rw [List.take_of_length_le (by rw [List.length_take]; omega)] at this
            exact this
          clear hI h1 h2 h3 bk a0 hiL hi1
          go_wp2_with fail
          go_meet
          exact AG
      · have t1 : ((i : Int) < (L : Int)) = False := eq_false (by omega)
        have t1n : (i < L) = False := eq_false hiL
        have AG : Aside (Bk w wr G 512 (ovl (List.replicate 512 0) 0 (name.take 100))) := by
          have := bk
          rw [List.take_of_length_le (by rw [List.length_take]; omega)] at this
          exact this
        clear hI h1 h2 h3 bk a0 hiL
        go_wp2_with fail
        go_meet
        exact AG
  case rest =>
    have AB1 := hcut
    obtain ⟨W1, hW1⟩ : ∃ W1, W1 = wc := ⟨_, rfl⟩
    subst hW1
    clear hcut A1
    obtain ⟨b1, hb1⟩ : ∃ b1, ovl (List.replicate 512 0) 0 (name.take 100) = b1 := ⟨_, rfl⟩
    have bkb : Bk w W1 G 512 b1 := by rw [← hb1]; exact AB1.out
    have hp := rput_c size 12 W1 (by have := A.out.2.2.2.2.1; omega)
    rw [put12 A.out.2.2.2.2.1] at hp
    have AB : Aside (Bk w W1 G 512 b1 ∧ ovl (List.replicate 512 0) 0 (name.take 100) = b1) := ⟨bkb, hb1⟩
    have bs : (size : Int) < 8589934592 := by have := A.out.2.2.2.2.1; omega
    clear bkb hb1 AB1
    go_upto_region 7 with (go_at_call 50; refine hp.mono ?_; rintro e2 w2 ⟨fa, f, FL, fc, rfl, hf1, hf2, hf3, hf4, hf5, hf6, hf7⟩)
    obtain rfl : f = oct12 size := hf1.symm
    obtain rfl : FL = 12 := by rw [← hf2, oct12_len]
    obtain ⟨fb, fo, hfa, hfc⟩ : ∃ b o, fa = some ⟨b, o, none⟩ ∧ ∀ (i x : Nat), (oct12 size)[i]? = some x → w2.cell? ⟨b, o + i, none⟩ = some (.int .u8 (x : Int)) := by
      rcases hf5 with q | q
      · have := oct12_len size; rw [q] at this; cases this
      · exact q
    subst hfa
    have hfne : fb ≠ G := by have h1 := hf7 _ rfl; have h2 := AB.out.1.cells.lt; intro e; subst e; exact absurd h1 (by show ¬ _ ≤ fb; omega)
    obtain ⟨U, hU⟩ : ∃ U, w2.heap.size = U := ⟨_, rfl⟩
    have bk2 := AB.out.1.keep hf6
    have hUG : U ≠ G := by have := bk2.cells.lt; omega
    have hcon := Lib.run_convert_bytes_const (P := Tryz.prog) w2 22 5 #[.int .u8 117, .int .u8 115, .int .u8 116, .int .u8 97, .int .u8 114] 5 5 Tryz.underlying22 Tryz.underlying5
    rw [hU] at hcon
    obtain ⟨w3, hw3⟩ : ∃ w3, w2.alloc (.cells #[.int .u8 117, .int .u8 115, .int .u8 116, .int .u8 97, .int .u8 114] 5 ((#[.int .u8 117, .int .u8 115, .int .u8 116, .int .u8 97, .int .u8 114] : Array Value).size, (#[.int .u8 117, .int .u8 115, .int .u8 116, .int .u8 97, .int .u8 114] : Array Value).size + 1)) = w3 := ⟨_, rfl⟩
    rw [hw3] at hcon
    have b3 : Below w2.heap.size w2 w3 := by rw [← hw3]; exact (Below.refl _ w2).alloc (Nat.le_refl _) _
    have hblk : w3.heap[U]? = some (.cells #[.int .u8 117, .int .u8 115, .int .u8 116, .int .u8 97, .int .u8 114] 5 (5, 6)) := by
      rw [← hw3, ← hU]
      show (w2.heap.push _)[w2.heap.size]? = _
      simp
    obtain ⟨f12, hf12⟩ : ∃ f12, oct12 size = f12 := ⟨_, rfl⟩
    rw [hf12] at hfc
    have A2 : Aside (Bk w w3 G 512 b1 ∧ (∀ (i x : Nat), f12[i]? = some x → w3.cell? ⟨fb, fo + i, none⟩ = some (.int .u8 (x : Int))) ∧ f12.length = 12 ∧ fb ≠ G ∧ b1.length = 512 ∧ ovl b1 124 f12 = ovl (ovl (List.replicate 512 0) 0 (name.take 100)) 124 (oct12 size)) := by
      refine ⟨bk2.keep b3, fun i x hx => ?_, by rw [← hf12]; exact oct12_len size, hfne, bk2.len, by rw [AB.out.2, hf12]⟩
      have hlt : fb < w2.heap.size := by
        have := hfc i x hx
        exact Classical.byContradiction fun hc => by
          have : w2.heap[fb]? = none := Array.getElem?_eq_none (by omega)
          simp [World.cell?, this] at *
      rw [World.cell?_of_block (w := w2) (b3.block fb hlt)]
      exact hfc i x hx
    have AU : Aside (w3.heap[U]? = some (.cells #[.int .u8 117, .int .u8 115, .int .u8 116, .int .u8 97, .int .u8 114] 5 (5, 6)) ∧ U ≠ G) := ⟨hblk, hUG⟩
    clear hp hf1 hf2 hf3 hf4 hf5 hf6 hf7 hfc hfne hw3 b3 hblk bk2 hf12 bs AB hUG
    go_upto_region 8 with fail
    clear hcon hU
    go_upto_block 2 with fail
    go_cut [] (fun wx => Aside (Bk w wx G 512 (ovl b1 124 f12) ∧ wx.heap[U]? = some (.cells #[.int .u8 117, .int .u8 115, .int .u8 116, .int .u8 97, .int .u8 114] 5 (5, 6))))
    case first =>
      go_wp2_with fail
      go_loopg [12] 12 (fun gg sx wr => ∃ i : Nat, sx = .int .i64 (i : Int) ∧ Aside (i + gg = 12 ∧ Bk w wr G 512 (ovl b1 124 (f12.take i)) ∧ (∀ (i x : Nat), f12[i]? = some x → wr.cell? ⟨fb, fo + i, none⟩ = some (.int .u8 (x : Int))) ∧ wr.heap[U]? = some (.cells #[.int .u8 117, .int .u8 115, .int .u8 116, .int .u8 97, .int .u8 114] 5 (5, 6))))
      case atStart => exact ⟨0, rfl, ⟨rfl, by rw [List.take_zero, ovl_nil]; exact A2.out.1, A2.out.2.1, AU.out.1⟩⟩
      case round =>
        obtain ⟨i, rfl, hI⟩ := hrel
        obtain ⟨h3, bk, hcf, hub⟩ := hI.out
        have a0 := A2.out
        by_cases hi1 : i < 12
        · have t1 : ((i : Int) < 12) = True := eq_true (by omega)
          have t1n : (i < 12) = True := eq_true hi1
          have t3 : (124 + i < 512) = True := eq_true (by omega)
          have t4 : ((124 : Int) + (i : Int) < 512) = True := eq_true (by omega)
          have bi : (i : Int) < 1000 := by omega
          obtain ⟨x, hx⟩ : ∃ x, f12[i]? = some x := ⟨_, List.getElem?_eq_getElem (by rw [a0.2.2.1]; exact hi1)⟩
          have c2 := hcf i x hx
          have hlen := bk.len
          obtain ⟨y, hy⟩ : ∃ y, (ovl b1 124 (f12.take i))[124 + i]? = some y := ⟨_, List.getElem?_eq_getElem (by omega)⟩
          have c1 := bk.cell hy
          have f1 := bk.fz (124 + i)
          have AG : Aside (i < 12 ∧ i + gk = 12 ∧ Bk w (wr.setCell ⟨G, 124 + i, none⟩ (.int .u8 (x : Int))) G 512 (ovl b1 124 (f12.take (i + 1))) ∧ (∀ (j z : Nat), f12[j]? = some z → (wr.setCell ⟨G, 124 + i, none⟩ (.int .u8 (x : Int))).cell? ⟨fb, fo + j, none⟩ = some (.int .u8 (z : Int))) ∧ (wr.setCell ⟨G, 124 + i, none⟩ (.int .u8 (x : Int))).heap[U]? = some (.cells #[.int .u8 117, .int .u8 115, .int .u8 116, .int .u8 97, .int .u8 114] 5 (5, 6))) := by
            refine ⟨hi1, h3, ?_, lies_bk bk hcf a0.2.2.2.1 _ _, (((Only.refl G wr).setCell _ _).block U AU.out.2).trans hub⟩
            have := bk.set (124 + i) x
            rw [ovl_step (by have := a0.2.2.1; have := a0.2.2.2.2; omega) hx] at this
            exact this
          clear hI h3 bk hcf hub a0 hi1 hx hlen hy
          go_wp2_with fail
          have ag := AG.out
          go_roundg (gk - 1)
          case measure => omega
          case rel => exact ⟨i + 1, by go_num, ⟨by omega, ag.2.2.1, ag.2.2.2.1, ag.2.2.2.2⟩⟩
        · have t1 : ((i : Int) < 12) = False := eq_false (by omega)
          have t1n : (i < 12) = False := eq_false hi1
          have AG : Aside (Bk w wr G 512 (ovl b1 124 f12) ∧ wr.heap[U]? = some (.cells #[.int .u8 117, .int .u8 115, .int .u8 116, .int .u8 97, .int .u8 114] 5 (5, 6))) := by
            have := bk
            rw [List.take_of_length_le (by rw [a0.2.2.1]; omega)] at this
            exact ⟨this, hub⟩
          clear hI h3 bk hcf hub a0 hi1
          go_wp2_with fail
          go_meet
          exact AG
    case rest =>
      have AB2 := hcut
      obtain ⟨W2, hW2⟩ : ∃ W, W = wc := ⟨_, rfl⟩
      subst hW2
      clear hcut
      have hb := AB2.out.1
      obtain ⟨b2, hb2⟩ : ∃ b2, ovl b1 124 f12 = b2 := ⟨_, rfl⟩
      have A3 : Aside (Bk w W2 G 512 b2 ∧ (∀ (i x : Nat), ustar[i]? = some x → W2.cell? ⟨U, 0 + i, none⟩ = some (.int .u8 (x : Int))) ∧ ustar.length = 5 ∧ U ≠ G ∧ b2.length = 512 ∧ b2 = ovl b1 124 f12) := by
        rw [hb2] at hb
        refine ⟨hb, fun i x hx => ?_, rfl, AU.out.2, hb.len, hb2.symm⟩
        have hi : i < 5 := (List.getElem?_eq_some_iff.1 hx).1
        rw [Nat.zero_add]
        unfold ustar at hx
        simp only [World.cell?, AB2.out.2]
        have : i = 0 ∨ i = 1 ∨ i = 2 ∨ i = 3 ∨ i = 4 := by omega
        rcases this with rfl | rfl | rfl | rfl | rfl <;> simp at hx <;> subst hx <;> rfl
      clear hb
      go_upto_block 4 with fail
      go_cut [] (fun wx => Aside (Bk w wx G 512 (ovl b2 257 ustar)))
      case first =>
        go_wp2_with fail
        go_loopg [13] 5 (fun gg sx wr => ∃ i : Nat, sx = .int .i64 (i : Int) ∧ Aside (i + gg = 5 ∧ Bk w wr G 512 (ovl b2 257 (ustar.take i)) ∧ ∀ (i x : Nat), ustar[i]? = some x → wr.cell? ⟨U, 0 + i, none⟩ = some (.int .u8 (x : Int))))
        case atStart => exact ⟨0, rfl, ⟨rfl, by rw [List.take_zero, ovl_nil]; exact A3.out.1, A3.out.2.1⟩⟩
        case round =>
          obtain ⟨i, rfl, hI⟩ := hrel
          obtain ⟨h3, bk, hcf⟩ := hI.out
          have a0 := A3.out
          by_cases hi1 : i < 5
          · have t1 : ((i : Int) < 5) = True := eq_true (by omega)
            have t1n : (i < 5) = True := eq_true hi1
            have t3 : (257 + i < 512) = True := eq_true (by omega)
            have t4 : ((257 : Int) + (i : Int) < 512) = True := eq_true (by omega)
            have bi : (i : Int) < 1000 := by omega
            obtain ⟨x, hx⟩ : ∃ x, ustar[i]? = some x := ⟨_, List.getElem?_eq_getElem (by rw [a0.2.2.1]; exact hi1)⟩
            have c2 := hcf i x hx
            rw [Nat.zero_add] at c2
            have hlen := bk.len
            obtain ⟨y, hy⟩ : ∃ y, (ovl b2 257 (ustar.take i))[257 + i]? = some y := ⟨_, List.getElem?_eq_getElem (by omega)⟩
            have c1 := bk.cell hy
            have f1 := bk.fz (257 + i)
            have AG : Aside (i < 5 ∧ i + gk = 5 ∧ Bk w (wr.setCell ⟨G, 257 + i, none⟩ (.int .u8 (x : Int))) G 512 (ovl b2 257 (ustar.take (i + 1))) ∧ ∀ (j z : Nat), ustar[j]? = some z → (wr.setCell ⟨G, 257 + i, none⟩ (.int .u8 (x : Int))).cell? ⟨U, 0 + j, none⟩ = some (.int .u8 (z : Int))) := by
              refine ⟨hi1, h3, ?_, lies_bk bk hcf a0.2.2.2.1 _ _⟩
              have := bk.set (257 + i) x
              rw [ovl_step (by have := a0.2.2.1; have := a0.2.2.2.2; omega) hx] at this
              exact this
            clear hI h3 bk hcf a0 hi1 hx hlen hy
            go_wp2_with fail
            have ag := AG.out
            go_roundg (gk - 1)
            case measure => omega
            case rel => exact ⟨i + 1, by go_num, ⟨by omega, ag.2.2.1, ag.2.2.2⟩⟩
          · have t1 : ((i : Int) < 5) = False := eq_false (by omega)
            have t1n : (i < 5) = False := eq_false hi1
            have AG : Aside (Bk w wr G 512 (ovl b2 257 ustar)) := by
              have := bk
              rw [List.take_of_length_le (by rw [a0.2.2.1]; omega)] at this
              exact this
            clear hI h3 bk hcf a0 hi1
            go_wp2_with fail
            go_meet
            exact AG
      case rest =>
        have AB4 := hcut
        obtain ⟨W4, hW4⟩ : ∃ W, W = wc := ⟨_, rfl⟩
        subst hW4
        clear hcut
        have hb := AB4.out
        have hlen := hb.len
        obtain ⟨y, hy⟩ : ∃ y, (ovl b2 257 ustar)[156]? = some y := ⟨_, List.getElem?_eq_getElem (by omega)⟩
        have c1 := hb.cell hy
        have f1 := hb.fz 156
        have hb2 := hb.set 156 kind
        obtain ⟨W6, hW6⟩ : ∃ W6, W4.setCell ⟨G, 156, none⟩ (.int .u8 (kind : Int)) = W6 := ⟨_, rfl⟩
        rw [hW6] at hb2
        have e0 : (ovl b2 257 ustar).set 156 kind = hd0 name size kind := by unfold hd0; rw [A3.out.2.2.2.2.2, A2.out.2.2.2.2.2]
        rw [e0] at hb2
        obtain ⟨h0, hh0⟩ : ∃ h0, hd0 name size kind = h0 := ⟨_, rfl⟩
        rw [hh0] at hb2
        have ho0 : Oct h0 := by rw [← hh0]; exact hd0_oct A.out.1 A.out.2.2.2.2.2.1
        have hl0 : h0.length = 512 := by rw [← hh0]; exact hd0_len _ _ _
        have hsm := rsums_c (some ⟨G, 0, none⟩) h0 512 W6 hl0 ho0 hb2.lies
        obtain ⟨sn1, hsn1⟩ : ∃ z, sn h0 512 = z := ⟨_, rfl⟩
        have hpb := pl_bd ho0 512
        obtain ⟨S, hS⟩ : ∃ S : Nat, (pl h0 512) = (S : Int) := ⟨(pl h0 512).toNat, by omega⟩
        rw [hS, hsn1] at hsm
        have hSb : S < 2097152 := by omega
        have hp8 := rput_c S 8 W6 (by omega)
        rw [put8 hSb] at hp8
        have AH : Aside (hd0 name size kind = h0 ∧ oct8 (pl h0 512).toNat = oct8 S) := ⟨hh0, by rw [hS]; rfl⟩
        have AB6 : Aside (Bk w W6 G 512 h0) := hb2
        have bS : (S : Int) < 2097152 := by omega
        have AW6 : Aside (W4.setCell ⟨G, 156, none⟩ (.int .u8 (kind : Int)) = W6) := hW6
        clear hb hlen hy hb2 hW6 e0 hh0 ho0 hl0 hsn1 hpb hS hSb
        go_upto_region 17 with fail
        rw [AW6.out]
        clear c1 f1
        go_upto_region 19 with (first | (go_at_call 32; refine hsm.mono ?_; rintro e7 w7 ⟨rfl, rfl⟩) | (go_at_call 50; refine hp8.mono ?_; rintro e8 w8 ⟨ga, g, GL, gc, rfl, hg1, hg2, hg3, hg4, hg5, hg6, hg7⟩))
        obtain rfl : g = oct8 S := hg1.symm
        obtain rfl : GL = 8 := by rw [← hg2, oct8_len]
        obtain ⟨gb, go_, hga, hgc⟩ : ∃ b o, ga = some ⟨b, o, none⟩ ∧ ∀ (i x : Nat), (oct8 S)[i]? = some x → w8.cell? ⟨b, o + i, none⟩ = some (.int .u8 (x : Int)) := by
          rcases hg5 with q | q
          · have := oct8_len S; rw [q] at this; cases this
          · exact q
        subst hga
        have hgne : gb ≠ G := by have := hg7 _ rfl; have := AB6.out.cells.lt; intro e; subst e; simp at *; omega
        obtain ⟨f8, hf8⟩ : ∃ f8, oct8 S = f8 := ⟨_, rfl⟩
        rw [hf8] at hgc
        have A5 : Aside (Bk w w8 G 512 h0 ∧ (∀ (i x : Nat), f8[i]? = some x → w8.cell? ⟨gb, go_ + i, none⟩ = some (.int .u8 (x : Int))) ∧ f8.length = 8 ∧ gb ≠ G ∧ h0.length = 512) := ⟨AB6.out.keep hg6, hgc, by rw [← hf8]; exact oct8_len S, hgne, AB6.out.len⟩
        have AH2 : Aside (hd0 name size kind = h0 ∧ oct8 (pl h0 512).toNat = f8) := ⟨AH.out.1, by rw [AH.out.2, hf8]⟩
        clear hsm hp8 hg1 hg2 hg3 hg4 hg5 hg6 hg7 hgc hgne hf8 AB6 AH
        go_upto_block 6 with fail
        go_cut [] (fun wx => Aside (Bk w wx G 512 (ovl h0 148 f8)))
        case first =>
          go_wp2_with fail
          go_loopg [17] 8 (fun gg sx wr => ∃ i : Nat, sx = .int .i64 (i : Int) ∧ Aside (i + gg = 8 ∧ Bk w wr G 512 (ovl h0 148 (f8.take i)) ∧ ∀ (i x : Nat), f8[i]? = some x → wr.cell? ⟨gb, go_ + i, none⟩ = some (.int .u8 (x : Int))))
          case atStart => exact ⟨0, rfl, ⟨rfl, by rw [List.take_zero, ovl_nil]; exact A5.out.1, A5.out.2.1⟩⟩
          case round =>
            obtain ⟨i, rfl, hI⟩ := hrel
            obtain ⟨h3, bk, hcf⟩ := hI.out
            have a0 := A5.out
            by_cases hi1 : i < 8
            · have t1 : ((i : Int) < 8) = True := eq_true (by omega)
              have t1n : (i < 8) = True := eq_true hi1
              have t3 : (148 + i < 512) = True := eq_true (by omega)
              have t4 : ((148 : Int) + (i : Int) < 512) = True := eq_true (by omega)
              have bi : (i : Int) < 1000 := by omega
              obtain ⟨x, hx⟩ : ∃ x, f8[i]? = some x := ⟨_, List.getElem?_eq_getElem (by rw [a0.2.2.1]; exact hi1)⟩
              have c2 := hcf i x hx
              have hlen := bk.len
              obtain ⟨y, hy⟩ : ∃ y, (ovl h0 148 (f8.take i))[148 + i]? = some y := ⟨_, List.getElem?_eq_getElem (by omega)⟩
              have c1 := bk.cell hy
              have f1 := bk.fz (148 + i)
              have AG : Aside (i < 8 ∧ i + gk = 8 ∧ Bk w (wr.setCell ⟨G, 148 + i, none⟩ (.int .u8 (x : Int))) G 512 (ovl h0 148 (f8.take (i + 1))) ∧ ∀ (j z : Nat), f8[j]? = some z → (wr.setCell ⟨G, 148 + i, none⟩ (.int .u8 (x : Int))).cell? ⟨gb, go_ + j, none⟩ = some (.int .u8 (z : Int))) := by
                refine ⟨hi1, h3, ?_, lies_bk bk hcf a0.2.2.2.1 _ _⟩
                have := bk.set (148 + i) x
                rw [ovl_step (by have := a0.2.2.1; have := a0.2.2.2.2; omega) hx] at this
                exact this
              clear hI h3 bk hcf a0 hi1 hx hlen hy
              go_wp2_with fail
              have ag := AG.out
              go_roundg (gk - 1)
              case measure => omega
              case rel => exact ⟨i + 1, by go_num, ⟨by omega, ag.2.2.1, ag.2.2.2⟩⟩
            · have t1 : ((i : Int) < 8) = False := eq_false (by omega)
              have t1n : (i < 8) = False := eq_false hi1
              have AG : Aside (Bk w wr G 512 (ovl h0 148 f8)) := by
                have := bk
                rw [List.take_of_length_le (by rw [a0.2.2.1]; omega)] at this
                exact this
              clear hI h3 bk hcf a0 hi1
              go_wp2_with fail
              go_meet
              exact AG
        case rest =>
          have AB5 := hcut
          obtain ⟨W5, hW5⟩ : ∃ W, W = wc := ⟨_, rfl⟩
          subst hW5
          clear hcut
          have t0 := AB5.out
          have hfin : Bk w W5 G 512 (hdr name size kind) := by
            unfold hdr
            rw [AH2.out.1, AH2.out.2]
            exact t0
          have AF : Aside (Bk w W5 G 512 (hdr name size kind)) := hfin
          clear hfin t0
          go_wp2_with fail
          go_ret
          exact ⟨G, rfl, AF.out⟩
end Go.Proofs.YtcmmjbkgoafbnaaGreatDoor

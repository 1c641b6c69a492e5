/-
  What Whole comes to.
-/
import Derived.Test.YtmijpocfichfpaaPutc
import Derived.Test.YtmijpocfichfpaaApp
namespace Go.Proofs.Ytmijpocfichfpaa
open Go.RowKit
set_option linter.unusedVariables false
theorem Ow.but {w u : World} {lo M : Nat} {e t : TypeId} {v : Value} {l : List Value} {cs : Array Value} (h : Ow w lo e v l) (k : But M w u) (hM : Cells w M cs t) (ht : t ≠ e) : Ow u lo e v l :=
  h.keep k.size fun g h1 h2 ⟨cs', fr, hx⟩ => k.block g h2 fun hgm => by
    subst hgm
    unfold Cells at hM
    rw [hM] at hx
    cases hx
    exact ht rfl
theorem Dd.new (w : World) : Dd (w.alloc (.cells #[.int .u8 0, .int .u8 0, .bool false, .bool false, .int .i64 0] 46)) w.heap.size 0 false 0 0 := Cells.new w _ 46
theorem Dd.alloc {w : World} {B pl : Nat} {p : Bool} {pv y : Nat} (h : Dd w B pl p pv y) (o : Obj) : Dd (w.alloc o) B pl p pv y := Cells.alloc h o
theorem Dd.ap {w u : World} {B pl : Nat} {p : Bool} {pv y lo : Nat} {e : TypeId} (h : Dd w B pl p pv y) (k : Ap lo e w u) (he : 46 ≠ e) : Dd u B pl p pv y := Cells.ap h k he
/-- One byte in a block of its own. -/
theorem lies_one (w : World) (H y : Nat) (hH : w.heap.size = H) : Lies (w.alloc (.cells #[.int .u8 (y : Int)] 5)) (some ⟨H, 0, none⟩) [y] := Or.inr ⟨H, 0, rfl, fun k z hz => by
  have hk : k = 0 := by have := (List.getElem?_eq_some_iff.1 hz).1; simp at this; exact this
  subst hk
  cases hz
  rw [← hH, Nat.zero_add, (Cells.new w #[.int .u8 (y : Int)] 5).cell 0]
  rfl⟩
/-- The bytes told so far, and what the rest says. -/
def Sofar (l : List Nat) (k pl : Nat) (p : Bool) (pv : Nat) (acc : List Nat) : Prop :=
  (rn 0 0 false 0 l).out = acc ++ (rn k pl p pv (l.drop k)).out ∧ (rn 0 0 false 0 l).why = (rn k pl p pv (l.drop k)).why ∧ (rn 0 0 false 0 l).at_ = (rn k pl p pv (l.drop k)).at_
theorem drop_more {l : List Nat} {k x : Nat} (h : l[k]? = some x) : l.drop k = x :: l.drop (k + 1) := by
  obtain ⟨h1, h2⟩ := List.getElem?_eq_some_iff.1 h
  rw [List.drop_eq_getElem_cons h1, h2]
theorem Sofar.go {l : List Nat} {k pl : Nat} {p : Bool} {pv : Nat} {acc : List Nat} (h : Sofar l k pl p pv acc) {x : Nat} (hx : l[k]? = some x) {pl' pv' : Nat} {p' : Bool} {o : Option Nat} (e : ev pl p pv x = .go pl' p' pv' o) : Sofar l (k + 1) pl' p' pv' (acc ++ o.toList) := by
  obtain ⟨h1, h2, h3⟩ := h
  rw [drop_more hx, rn_go e] at h1 h2 h3
  cases o with
  | none => exact ⟨by simpa [addo] using h1, h2, h3⟩
  | some y => exact ⟨by simpa [addo] using h1, h2, h3⟩
theorem Sofar.stop {l : List Nat} {k pl : Nat} {p : Bool} {pv : Nat} {acc : List Nat} (h : Sofar l k pl p pv acc) {x : Nat} (hx : l[k]? = some x) {y : Nat} (e : ev pl p pv x = .stop y) : (rn 0 0 false 0 l).out = acc ∧ (rn 0 0 false 0 l).why = y ∧ (rn 0 0 false 0 l).at_ = k := by
  obtain ⟨h1, h2, h3⟩ := h
  rw [drop_more hx, rn_stop e] at h1 h2 h3
  exact ⟨by simpa using h1, h2, h3⟩
theorem Sofar.over {l : List Nat} {k pl : Nat} {p : Bool} {pv : Nat} {acc : List Nat} (h : Sofar l k pl p pv acc) (hk : k = l.length) : (rn 0 0 false 0 l).out = acc ∧ (rn 0 0 false 0 l).why = (if pl = 0 then 0 else 1) ∧ (rn 0 0 false 0 l).at_ = k := by
  obtain ⟨h1, h2, h3⟩ := h
  have e : l.drop k = [] := List.drop_eq_nil_of_le (by omega)
  rw [e, rn] at h1 h2 h3
  exact ⟨by simpa using h1, h2, h3⟩
theorem Sofar.len {l : List Nat} {k pl : Nat} {p : Bool} {pv : Nat} {acc : List Nat} (h : Sofar l k pl p pv acc) : acc.length ≤ l.length := by
  have h1 := congrArg List.length h.1
  rw [List.length_append] at h1
  have := (rn_lens l 0 0 false 0).1
  omega
/-- What Whole comes to. -/
def WhTo (l : List Nat) (w : World) (e : Ending) (w' : World) : Prop :=
  ∃ vo, e = .returned (.tuple #[vo, .int .i64 ((rn 0 0 false 0 l).why : Nat), .int .i64 ((rn 0 0 false 0 l).at_ : Nat)]) ∧ Ob w' w.heap.size vo (rn 0 0 false 0 l).out ∧ Below w.heap.size w w'
set_option maxHeartbeats 1000000 in
theorem whole_c (w : World) (a : Option Addr) (l : List Nat) (L C : Nat) (hB : Lies w a l) (hL : l.length = L) (hLb : L < 140737488355328) (ho : Oct l) : Calls Try.prog 9 #[.slice a L C] w fun e w' => WhTo l w e w' := by
  have hnew := new_c w
  obtain ⟨B, hBe⟩ : ∃ B, w.heap.size = B := ⟨_, rfl⟩
  have A1 : Aside (Dd (w.alloc (.cells #[.int .u8 0, .int .u8 0, .bool false, .bool false, .int .i64 0] 46)) B 0 false 0 0 ∧ Below B w (w.alloc (.cells #[.int .u8 0, .int .u8 0, .bool false, .bool false, .int .i64 0] 46))) := by
    rw [← hBe]; exact ⟨Dd.new w, (Below.refl _ w).alloc (Nat.le_refl _) _⟩
  obtain ⟨w1, hw1⟩ : ∃ w1, w.alloc (.cells #[.int .u8 0, .int .u8 0, .bool false, .bool false, .int .i64 0] 46) = w1 := ⟨_, rfl⟩
  rw [hBe, hw1] at hnew
  rw [hw1] at A1
  have A : Aside (Lies w a l ∧ l.length = L ∧ L < 140737488355328 ∧ Oct l ∧ w.heap.size = B) := ⟨hB, hL, hLb, ho, hBe⟩
  clear hB hL hLb ho hBe hw1
  go_enter Try.func9, Try.ntmps9
  go_wp2_with (go_at_call 13; refine hnew.mono ?_; rintro e1 w2 ⟨rfl, hw2⟩; subst hw2)
  clear hnew
  go_loopg [2, 14] L (fun gg s2 s14 wr => ∃ k : Nat, s14 = .int .i64 (k : Int) ∧ Aside (k + gg = L ∧ ∃ pl p pv acc, Wf pl p pv ∧ Dd wr B pl p pv 0 ∧ Ob wr B s2 acc ∧ Below B w wr ∧ Sofar l k pl p pv acc))
  case atStart => exact ⟨0, rfl, by omega, 0, false, 0, [], wf0, A1.out.1, Ow.nil (Nat.le_of_lt (Cells.lt A1.out.1)), A1.out.2, ⟨rfl, rfl, rfl⟩⟩
  case round =>
    obtain ⟨k, rfl, hI⟩ := hrel
    obtain ⟨hkg, pl, p, pv, acc, hwf, hdd, hob, hbel, hsf⟩ := hI.out
    have a0 := A.out
    by_cases hk : k < L
    · have t1 : ((k : Int) < (L : Int)) = True := eq_true (by omega)
      have t1' : (k < L) = True := eq_true hk
      have hkI : (k : Int) < 200000000000000 := by omega
      obtain ⟨x, hx⟩ : ∃ x, l[k]? = some x := ⟨_, List.getElem?_eq_getElem (by omega)⟩
      have hx256 : x < 256 := a0.2.2.2.1 x (List.mem_of_getElem? hx)
      obtain ⟨ab, ao, ha, hcB⟩ : ∃ ab ao, a = some ⟨ab, ao, none⟩ ∧ ∀ (j y : Nat), l[j]? = some y → w.cell? ⟨ab, ao + j, none⟩ = some (.int .u8 (y : Int)) := by
        rcases a0.1 with e | ⟨ab, ao, e, h⟩
        · rw [e] at hx; simp at hx
        · exact ⟨ab, ao, e, h⟩
      subst ha
      have cx0 := hcB k x hx
      have hlt := World.block_lt_of_cell? w ⟨ab, ao + k, none⟩ cx0
      have cx : wr.cell? ⟨ab, ao + k, none⟩ = some (.int .u8 (x : Int)) := (hbel.cell (p := ⟨ab, ao + k, none⟩) (by rw [← a0.2.2.2.2]; exact hlt)).trans cx0
      obtain ⟨va, vc, hv, hvc, hlies, hvn⟩ := hob.shape
      obtain ⟨ln, hln⟩ : ∃ ln, acc.length = ln := ⟨_, rfl⟩
      rw [hln] at hv
      subst hv
      cases e : ev pl p pv x using Ev.el with
      | stop y =>
        have hput := put_stop B pl pv x p hx256 hwf wr hdd e
        have hy := ev_stop e
        obtain ⟨r1, r2, r3⟩ := hsf.stop hx e
        have ty : ((y : Int) != 0) = true := by rw [bne_iff_ne]; omega
        have ty2 : ((y : Int) == 0) = false := by rw [beq_eq_false_iff_ne]; omega
        have AE : Aside ((rn 0 0 false 0 l).out = acc ∧ (rn 0 0 false 0 l).why = y ∧ (rn 0 0 false 0 l).at_ = k ∧ Dd wr B pl p pv 0 ∧ Ob wr B (.slice va ln vc) acc ∧ Below B w wr ∧ w.heap.size = B) := ⟨r1, r2, r3, hdd, hob, hbel, a0.2.2.2.2⟩
        clear hI hkg hdd hob hbel hsf hwf a0 hx hx256 hcB cx0 hlt hvc hlies hvn hln r1 r2 r3 e hy hk
        go_wp2_with (go_at_call 14; refine hput.mono ?_; rintro e2 w2 ⟨rfl, hd2, hb2⟩)
        go_ret3
        have ae := AE.out
        refine ⟨.slice va ln vc, by rw [ae.2.1, ae.2.2.1]; rfl, ?_, ?_⟩
        · rw [ae.1, ae.2.2.2.2.2.2]; exact Ow.but ae.2.2.2.2.1 hb2 ae.2.2.2.1 (by decide)
        · rw [ae.2.2.2.2.2.2]; exact ae.2.2.2.2.2.1.trans (hb2.below (Nat.le_refl _) (Nat.le_of_lt (Cells.lt ae.2.2.2.1)))
      | go pl' p' pv' o =>
        have hput := put_go B pl pv x p hx256 hwf wr hdd e
        have hsf2 := hsf.go hx e
        have hwf2 := ev_wf hwf e
        cases o with
        | none =>
          have AE : Aside (k + gk = L ∧ k < L ∧ Wf pl' p' pv' ∧ Dd wr B pl p pv 0 ∧ Ob wr B (.slice va ln vc) acc ∧ Below B w wr ∧ Sofar l (k + 1) pl' p' pv' acc) := ⟨hkg, hk, hwf2, hdd, hob, hbel, by simpa using hsf2⟩
          clear hI hkg hdd hob hbel hsf hwf a0 hx hx256 hcB cx0 hlt hvc hlies hvn hln hsf2 hwf2 e hk
          go_wp2_with (go_at_call 14; refine hput.mono ?_; rintro e2 w2 ⟨he2, hd2, hb2⟩; obtain rfl := (show e2 = .returned (.tuple #[.int .u8 0, .bool false, .int .i64 0]) from he2))
          have ae := AE.out
          go_roundg (gk - 1)
          case measure => omega
          case rel => exact ⟨k + 1, by go_num, by omega, pl', p', pv', acc, ae.2.2.1, hd2, Ow.but ae.2.2.2.2.1 hb2 ae.2.2.2.1 (by decide), ae.2.2.2.2.2.1.trans (hb2.below (Nat.le_refl _) (Nat.le_of_lt (Cells.lt ae.2.2.2.1))), ae.2.2.2.2.2.2⟩
        | some y =>
          have hlen := hsf.len
          have AE : Aside (k + gk = L ∧ k < L ∧ Wf pl' p' pv' ∧ Dd wr B pl p pv 0 ∧ Ob wr B (.slice va ln vc) acc ∧ Below B w wr ∧ Sofar l (k + 1) pl' p' pv' (acc ++ [y]) ∧ acc.length + 1 ≤ 140737488355328) := ⟨hkg, hk, hwf2, hdd, hob, hbel, by simpa using hsf2, by omega⟩
          clear hI hkg hdd hob hbel hsf hwf a0 hx hx256 hcB cx0 hlt hvc hlies hvn hln hsf2 hwf2 e hk hlen
          go_upto_region 9 with (go_at_call 14; refine hput.mono ?_; rintro e2 w2 ⟨he2, hd2, hb2⟩; obtain rfl := (show e2 = .returned (.tuple #[.int .u8 (y : Int), .bool true, .int .i64 0]) from he2))
          have ae := AE.out
          obtain ⟨H, hH⟩ : ∃ H, w2.heap.size = H := ⟨_, rfl⟩
          have bal : Below w2.heap.size w2 (w2.alloc (.cells #[.int .u8 (y : Int)] 5)) := (Below.refl _ w2).alloc (Nat.le_refl _) _
          have hob2 : Ob w2 B (.slice va ln vc) acc := Ow.but ae.2.2.2.2.1 hb2 ae.2.2.2.1 (by decide)
          have hobA : Ob (w2.alloc (.cells #[.int .u8 (y : Int)] 5)) B (.slice va ln vc) acc := Ow.below hob2 bal (Nat.le_refl _)
          have hlA := lies_one w2 H y hH
          have hB2 : B ≤ w2.heap.size := hob2.le
          have A2 : Aside (Dd (w2.alloc (.cells #[.int .u8 (y : Int)] 5)) B pl' p' pv' 0 ∧ Below B w (w2.alloc (.cells #[.int .u8 (y : Int)] 5))) := ⟨hd2.alloc _, (ae.2.2.2.2.2.1.trans (hb2.below (Nat.le_refl _) (Nat.le_of_lt (Cells.lt ae.2.2.2.1)))).trans (bal.mono hB2)⟩
          have AL : Aside (acc.length + 1 ≤ 140737488355328) := ae.2.2.2.2.2.2.2
          clear ae bal hob2 hd2 hb2 hB2 hput cx t1 t1'
          go_wp2_with (at_builtin; refine wpList_ob _ rfl (.tmp 32) (.tmp 34) rfl B (.slice va ln vc) acc (by rfl) hobA (some ⟨H, 0, none⟩) [y] 1 1 rfl (by rfl) (by intro h; cases h) hlA AL.out ?_; intro v6 w6 hap)
          have ae := AE.out
          have a2 := A2.out
          go_roundg (gk - 1)
          case measure => omega
          case rel => exact ⟨k + 1, by go_num, by omega, pl', p', pv', acc ++ [y], ae.2.2.1, a2.1.ap hap.ap (by decide), hap.ow, a2.2.trans hap.ap.bel, ae.2.2.2.2.2.2.1⟩
    · have t1 : ((k : Int) < (L : Int)) = False := eq_false (by omega)
      have t1' : (k < L) = False := eq_false hk
      have hend := end_c B pl pv p hwf wr hdd _ rfl
      obtain ⟨y, hy⟩ : ∃ y, (if pl = 0 then 0 else 1) = y := ⟨_, rfl⟩
      rw [hy] at hend
      obtain ⟨r1, r2, r3⟩ := hsf.over (by omega)
      rw [hy] at r2
      have hkL : k = L := by omega
      obtain ⟨va, vc, hv, hvc, hlies, hvn⟩ := hob.shape
      obtain ⟨ln, hln⟩ : ∃ ln, acc.length = ln := ⟨_, rfl⟩
      rw [hln] at hv
      subst hv
      have AE : Aside ((rn 0 0 false 0 l).out = acc ∧ (rn 0 0 false 0 l).why = y ∧ (rn 0 0 false 0 l).at_ = L ∧ Dd wr B pl p pv 0 ∧ Ob wr B (.slice va ln vc) acc ∧ Below B w wr ∧ w.heap.size = B) := ⟨r1, r2, by rw [r3, hkL], hdd, hob, hbel, a0.2.2.2.2⟩
      clear hI hkg hdd hob hbel hsf hwf a0 hvc hlies hvn hln r1 r2 r3 hy hk hkL
      go_wp2_with (go_at_call 16; refine hend.mono ?_; rintro e2 w2 ⟨rfl, hd2, hb2⟩)
      go_ret3
      have ae := AE.out
      refine ⟨.slice va ln vc, by rw [ae.2.1, ae.2.2.1]; rfl, ?_, ?_⟩
      · rw [ae.1, ae.2.2.2.2.2.2]; exact Ow.but ae.2.2.2.2.1 hb2 ae.2.2.2.1 (by decide)
      · rw [ae.2.2.2.2.2.2]; exact ae.2.2.2.2.2.1.trans (hb2.below (Nat.le_refl _) (Nat.le_of_lt (Cells.lt ae.2.2.2.1)))
end Go.Proofs.Ytmijpocfichfpaa

/-
  What tell and Whole come to.
-/
import Derived.Test.YtapljkenmgdkmaaPutc
namespace Go.Proofs.Ytapljkenmgdkmaa
open Go.RowKit
set_option linter.unusedVariables false
theorem Ow.but {w u : World} {lo M : Nat} {e t : TypeId} {v : Value} {l : List Value} {cs : Array Value} (h : Ow w lo e v l) (k : But M w u) (hM : Cells w M cs t) (ht : t ≠ e) : Ow u lo e v l :=
  h.keep k.size fun g h1 h2 ⟨cs', fr, hx⟩ => k.block g h2 fun hgm => by
    subst hgm
    unfold Cells at hM
    rw [hM] at hx
    cases hx
    exact ht rfl
theorem Ob.dl {w u : World} {lo B sn hi kn y : Nat} {v : Value} {l q : List Nat} (h : Ob w lo v l) (k : But B w u) (hd : Dl w B sn hi q kn y) : Ob u lo v l := by
  obtain ⟨cs, hc⟩ := hd.cells
  exact Ow.but h k hc (by decide)
/-- One byte in a block of its own. -/
theorem lies_one (w : World) (H y : Nat) (hH : w.heap.size = H) : Lies (w.alloc (.cells #[.int .u8 (y : Int)] 5)) (some ⟨H, 0, none⟩) [y] := Or.inr ⟨H, 0, rfl, fun k z hz => by
  have hk : k = 0 := by have := (List.getElem?_eq_some_iff.1 hz).1; simp at this; exact this
  subst hk
  cases hz
  rw [← hH, Nat.zero_add, (Cells.new w #[.int .u8 (y : Int)] 5).cell 0]
  rfl⟩
/-- What Next left: the bytes R that are still known, the first of them in hand. -/
def Tl (w w0 : World) (lo B sn hi y : Nat) (acc R W : List Nat) (s1 s5 s6 : Value) (G : Nat) : Prop :=
  Ob w lo s1 acc ∧ Below lo w0 w ∧ ((R = [] ∧ G = 0 ∧ s5 = .int .u8 0 ∧ s6 = .bool false ∧ Dl w B sn hi W 0 y) ∨ ∃ x R', R = x :: R' ∧ G = R.length ∧ s5 = .int .u8 (x : Int) ∧ s6 = .bool true ∧ Dl w B sn hi (R' ++ W) R'.length y)
/-- Next, at any row of known bytes. -/
theorem next_tl {w w0 : World} {lo B sn hi y : Nat} {acc R W : List Nat} {s1 : Value} (hlo : lo ≤ B) (hob : Ob w lo s1 acc) (hb : Below lo w0 w) (h : Dl w B sn hi (R ++ W) R.length y) :
    Calls Try.prog 21 #[.pointer (some ⟨B, 0, none⟩)] w fun e w' => ∃ (x : Nat) (q : Bool), e = .returned (.tuple #[.int .u8 (x : Int), .bool q]) ∧ Tl w' w0 lo B sn hi y acc R W s1 (.int .u8 (x : Int)) (.bool q) R.length := by
  cases R with
  | nil =>
    refine (next_none w h).mono ?_
    rintro e1 w1 ⟨he, rfl⟩
    exact ⟨0, false, he, hob, hb, Or.inl ⟨rfl, rfl, rfl, rfl, h⟩⟩
  | cons x R =>
    refine (next_l w h (by simp)).mono ?_
    rintro e1 w1 ⟨he, h1, o1⟩
    exact ⟨x, true, he, hob.dl o1 h, hb.trans (o1.below hlo (by have := h.lt; omega)), Or.inr ⟨x, R, rfl, rfl, rfl, rfl, by simpa using h1⟩⟩
set_option maxHeartbeats 1000000 in
theorem tell_l {w : World} {lo B sn hi y : Nat} {acc K W : List Nat} {v : Value} (hlo : lo ≤ B) (hob : Ob w lo v acc) (h : Dl w B sn hi (K ++ W) K.length y) (hn : acc.length + K.length ≤ 140737488355328) :
    Calls Try.prog 22 #[.pointer (some ⟨B, 0, none⟩), v] w fun e w' => ∃ v', e = .returned v' ∧ Ob w' lo v' (acc ++ K) ∧ Dl w' B sn hi W 0 y ∧ Below lo w w' := by
  have hnx := next_tl hlo hob (Below.refl lo w) h
  have A : Aside (lo ≤ B ∧ acc.length + K.length ≤ 140737488355328) := ⟨hlo, hn⟩
  clear hlo hn h hob
  go_enter Try.func22, Try.ntmps22
  go_upto_region 2 with (go_at_call 21; refine hnx.mono ?_; rintro e1 w1 ⟨x1, q1, rfl, h1⟩)
  clear hnx
  go_loopg [1, 5, 6] K.length (fun gg s1 s5 s6 wr => ∃ (x : Nat) (q : Bool), s5 = .int .u8 (x : Int) ∧ s6 = .bool q ∧ Aside (∃ acc2 R, acc2 ++ R = acc ++ K ∧ R.length = gg ∧ Tl wr w lo B sn hi y acc2 R W s1 s5 s6 gg))
  case atStart => exact ⟨x1, q1, rfl, rfl, acc, K, rfl, rfl, h1⟩
  case round =>
    obtain ⟨x, q, rfl, rfl, hI⟩ := hrel
    obtain ⟨acc2, R, hR, hRg, hob, hbel, hcase⟩ := hI.out
    have a0 := A.out
    obtain ⟨va, vc, hv, hvc, hlies, hvn⟩ := Ob.shape hob
    obtain ⟨ln, hln⟩ : ∃ ln, acc2.length = ln := ⟨_, rfl⟩
    rw [hln] at hv
    subst hv
    rcases hcase with ⟨rfl, _, hx, hq, hd⟩ | ⟨x', R', rfl, hG, hx, hq, hd⟩
    · cases hq
      have A2 : Aside (Ob wr lo (.slice va ln vc) acc2 ∧ acc2 = acc ++ K ∧ Dl wr B sn hi W 0 y ∧ Below lo w wr) := ⟨hob, by simpa using hR, hd, hbel⟩
      clear hI hR hRg hob hbel hd a0 hvc hlies hvn hln hx
      go_wp2_with fail
      go_ret
      have a2 := A2.out
      exact ⟨_, rfl, by rw [← a2.2.1]; exact a2.1, a2.2.2.1, a2.2.2.2⟩
    · cases hq
      have hxx : x' = x := by injection hx with _ e; omega
      subst hxx
      have AL : Aside (acc2.length + [x'].length ≤ 140737488355328) := by
        have h1 := congrArg List.length hR
        simp at h1
        show _ ≤ _
        simp
        omega
      obtain ⟨H, hH⟩ : ∃ H, wr.heap.size = H := ⟨_, rfl⟩
      have bal : Below wr.heap.size wr (wr.alloc (.cells #[.int .u8 (x' : Int)] 5)) := (Below.refl _ wr).alloc (Nat.le_refl _) _
      have hobA : Ob (wr.alloc (.cells #[.int .u8 (x' : Int)] 5)) lo (.slice va ln vc) acc2 := Ow.below hob bal (Nat.le_refl _)
      have hlA := lies_one wr H x' hH
      have A2 : Aside (lo ≤ B ∧ (acc2 ++ [x']) ++ R' = acc ++ K ∧ gk = R'.length + 1 ∧ Dl (wr.alloc (.cells #[.int .u8 (x' : Int)] 5)) B sn hi (R' ++ W) R'.length y ∧ Below lo w (wr.alloc (.cells #[.int .u8 (x' : Int)] 5))) := ⟨a0.1, by simpa using hR, by simpa using hG, hd.alloc _, hbel.trans (bal.mono hob.le)⟩
      clear hI hR hRg hob hbel hd a0 hvc hlies hvn hln hx hG bal
      go_upto_region 3 with (at_builtin; refine wpList_ob _ rfl (.tmp 18) (.tmp 20) rfl lo (.slice va ln vc) acc2 (by rfl) hobA (some ⟨H, 0, none⟩) [x'] 1 1 rfl (by rfl) (by intro h; cases h) hlA AL.out ?_; intro v6 w6 hap)
      have a2 := A2.out
      have hd6 := a2.2.2.2.1.ap hap.ap (by decide)
      have hnx := next_tl a2.1 hap.ow (a2.2.2.2.2.trans hap.ap.bel) hd6
      clear hd6 a2 hap hobA hlA
      go_wp2_with (go_at_call 21; refine hnx.mono ?_; rintro e1 w7 ⟨x7, q7, rfl, h7⟩)
      have a2 := A2.out
      go_roundg R'.length
      case measure => omega
      case rel => exact ⟨x7, q7, rfl, rfl, acc2 ++ [x'], R', a2.2.1, rfl, h7⟩
theorem tell_du {w : World} {lo B : Nat} {s : St} {acc K W : List Nat} {v : Value} (hlo : lo ≤ B) (hob : Ob w lo v acc) (h : Du w B s K W) (hn : acc.length + K.length ≤ 140737488355328) :
    Calls Try.prog 22 #[.pointer (some ⟨B, 0, none⟩), v] w fun e w' => ∃ v', e = .returned v' ∧ Ob w' lo v' (acc ++ K) ∧ Du w' B s [] W ∧ Below lo w w' := by
  obtain ⟨hi, hh, hd⟩ := h.ex
  refine (tell_l hlo hob hd hn).mono ?_
  rintro e1 w1 ⟨v1, he, h1, h2, h3⟩
  exact ⟨v1, he, h1, ⟨⟨hi, hh, h2⟩, h.wf⟩, h3⟩
theorem tell_dv {w : World} {lo B y : Nat} {acc K : List Nat} {v : Value} (hlo : lo ≤ B) (hob : Ob w lo v acc) (h : Dv w B K y) (hn : acc.length + K.length ≤ 140737488355328) :
    Calls Try.prog 22 #[.pointer (some ⟨B, 0, none⟩), v] w fun e w' => ∃ v', e = .returned v' ∧ Ob w' lo v' (acc ++ K) ∧ Dv w' B [] y ∧ Below lo w w' := by
  obtain ⟨hi, hd⟩ := h.ex
  refine (tell_l (W := []) hlo hob (by simpa using hd) hn).mono ?_
  rintro e1 w1 ⟨v1, he, h1, h2, h3⟩
  exact ⟨v1, he, h1, ⟨⟨hi, h2⟩⟩, h3⟩
/-- The bytes told so far, and what the rest says. -/
def Sofar (l : List Nat) (k : Nat) (s : St) (W acc : List Nat) : Prop :=
  (rn 0 .no [] l).out = acc ++ (rn k s W (l.drop k)).out ∧ (rn 0 .no [] l).why = (rn k s W (l.drop k)).why ∧ (rn 0 .no [] l).at_ = (rn k s W (l.drop k)).at_
theorem drop_more {l : List Nat} {k x : Nat} (h : l[k]? = some x) : l.drop k = x :: l.drop (k + 1) := by
  obtain ⟨h1, h2⟩ := List.getElem?_eq_some_iff.1 h
  rw [List.drop_eq_getElem_cons h1, h2]
section
variable {l : List Nat} {k : Nat} {s : St} {W acc : List Nat}
theorem Sofar.go (h : Sofar l k s W acc) {x : Nat} (hx : l[k]? = some x) {s' : St} {W' K : List Nat} (e : ev s W x = .go s' W' K) : Sofar l (k + 1) s' W' (acc ++ K) := by
  obtain ⟨h1, h2, h3⟩ := h
  rw [drop_more hx, rn_go e] at h1 h2 h3
  exact ⟨by rw [h1]; simp [addk], h2, h3⟩
theorem Sofar.stop (h : Sofar l k s W acc) {x : Nat} (hx : l[k]? = some x) (e : ev s W x = .stop) : (rn 0 .no [] l).out = acc ∧ (rn 0 .no [] l).why = 22 ∧ (rn 0 .no [] l).at_ = k := by
  obtain ⟨h1, h2, h3⟩ := h
  rw [drop_more hx, rn_stop e] at h1 h2 h3
  exact ⟨by simpa using h1, h2, h3⟩
theorem Sofar.over (h : Sofar l k s W acc) (hk : k = l.length) : (rn 0 .no [] l).out = acc ++ fin s W ∧ (rn 0 .no [] l).why = finy s ∧ (rn 0 .no [] l).at_ = k := by
  obtain ⟨h1, h2, h3⟩ := h
  have e : l.drop k = [] := List.drop_eq_nil_of_le (by omega)
  rw [e, rn] at h1 h2 h3
  exact ⟨h1, h2, h3⟩
theorem Sofar.len (h : Sofar l k s W acc) : acc.length ≤ l.length := by
  have h1 := congrArg List.length h.1
  rw [List.length_append] at h1
  have := rn_len l 0 .no []
  simp [pend] at this
  omega
end
/-- What Whole comes to. -/
def WhTo (l : List Nat) (w : World) (e : Ending) (w' : World) : Prop :=
  ∃ vo, e = .returned (.tuple #[vo, .int .i64 ((rn 0 .no [] l).why : Nat), .int .i64 ((rn 0 .no [] l).at_ : Nat)]) ∧ Ob w' w.heap.size vo (rn 0 .no [] l).out ∧ Below w.heap.size w w'
set_option maxHeartbeats 1000000 in
theorem whole_c (w : World) (a : Option Addr) (l : List Nat) (L C : Nat) (hB : Lies w a l) (hL : l.length = L) (hLb : L < 140737488355328) (ho : Oct l) : Calls Try.prog 9 #[.slice a L C] w fun e w' => WhTo l w e w' := by
  have hnew := new_c w
  obtain ⟨B, hBe⟩ : ∃ B, w.heap.size = B := ⟨_, rfl⟩
  rw [hBe] at hnew
  have A : Aside (Lies w a l ∧ l.length = L ∧ L < 140737488355328 ∧ Oct l ∧ w.heap.size = B) := ⟨hB, hL, hLb, ho, hBe⟩
  clear hB hL hLb ho hBe
  go_enter Try.func9, Try.ntmps9
  go_wp2_with (go_at_call 13; refine hnew.mono ?_; rintro e1 w1 ⟨rfl, hd1, hb1⟩)
  clear hnew
  go_loopg [2, 6, 7, 11] L (fun gg s2 s6 s7 s11 wr => ∃ k : Nat, s11 = .int .i64 (k : Int) ∧ Aside (k + gg = L ∧ ∃ s W acc, Du wr B s [] W ∧ Ob wr B s2 acc ∧ Below B w wr ∧ Sofar l k s W acc))
  case atStart => exact ⟨0, rfl, by omega, .no, [], [], hd1, Ow.nil (Nat.le_of_lt hd1.lt), hb1, ⟨rfl, rfl, rfl⟩⟩
  case round =>
    obtain ⟨k, rfl, hI⟩ := hrel
    obtain ⟨hkg, s, W, acc, hdd, hob, hbel, hsf⟩ := hI.out
    have a0 := A.out
    obtain ⟨va, vc, hv, hvc, hlies, hvn⟩ := hob.shape
    obtain ⟨ln, hln⟩ : ∃ ln, acc.length = ln := ⟨_, rfl⟩
    rw [hln] at hv
    subst hv
    by_cases hk : k < L
    · have t1 : ((k : Int) < (L : Int)) = True := eq_true (by omega)
      have t1' : (k < L) = True := eq_true hk
      have hkI : (k : Int) < 200000000000000 := by omega
      obtain ⟨x, hx⟩ : ∃ x, l[k]? = some x := ⟨_, List.getElem?_eq_getElem (by omega)⟩
      have hx256 : x < 256 := a0.2.2.2.1 x (List.mem_of_getElem? hx)
      obtain ⟨ab, ao, ha, hcB⟩ : ∃ ab ao, a = some ⟨ab, ao, none⟩ ∧ ∀ (j y : Nat), l[j]? = some y → w.cell? ⟨ab, ao + j, none⟩ = some (.int .u8 (y : Int)) := by
        rcases a0.1 with e | ⟨ab, ao, e, h⟩
        · rw [e] at hx; simp at hx
        · exact ⟨ab, ao, e, h⟩
      subst ha
      have cx0 := hcB k x hx
      have hlt := World.block_lt_of_cell? w ⟨ab, ao + k, none⟩ cx0
      have cx : wr.cell? ⟨ab, ao + k, none⟩ = some (.int .u8 (x : Int)) := (hbel.cell (p := ⟨ab, ao + k, none⟩) (by rw [← a0.2.2.2.2]; exact hlt)).trans cx0
      obtain ⟨cs, hcs⟩ := hdd.cells
      cases e : ev s W x using Ev.el with
      | stop =>
        have hput := put_stop x hx256 wr hdd e
        obtain ⟨r1, r2, r3⟩ := hsf.stop hx e
        have AE : Aside ((rn 0 .no [] l).out = acc ∧ (rn 0 .no [] l).why = 22 ∧ (rn 0 .no [] l).at_ = k ∧ Cells wr B cs 51 ∧ Ob wr B (.slice va ln vc) acc ∧ Below B w wr ∧ w.heap.size = B) := ⟨r1, r2, r3, hcs, hob, hbel, a0.2.2.2.2⟩
        clear hI hkg hdd hob hbel hsf a0 hx hx256 hcB cx0 hlt hvc hlies hvn hln r1 r2 r3 e hk hcs
        go_wp2_with (first
          | (go_at_call 14; refine hput.mono ?_; rintro e2 w2 ⟨rfl, hd2, hb2⟩; have hwy := why_dv w2 hd2; clear hput)
          | (go_at_call 17; refine hwy.mono ?_; rintro e3 w3 ⟨rfl, hw3⟩; subst hw3))
        go_ret3
        have ae := AE.out
        refine ⟨.slice va ln vc, by rw [ae.2.1, ae.2.2.1]; rfl, ?_, ?_⟩
        · rw [ae.1, ae.2.2.2.2.2.2]; exact Ow.but ae.2.2.2.2.1 hb2 ae.2.2.2.1 (by decide)
        · rw [ae.2.2.2.2.2.2]; exact ae.2.2.2.2.2.1.trans (hb2.below (Nat.le_refl _) (Nat.le_of_lt (Cells.lt ae.2.2.2.1)))
      | go s' W' K =>
        have hput := put_go x hx256 wr hdd e
        have hsf2 := hsf.go hx e
        have hlen := hsf2.len
        have AE : Aside (k + gk = L ∧ k < L ∧ Cells wr B cs 51 ∧ Ob wr B (.slice va ln vc) acc ∧ Below B w wr ∧ Sofar l (k + 1) s' W' (acc ++ K) ∧ acc.length + K.length ≤ 140737488355328) := ⟨hkg, hk, hcs, hob, hbel, hsf2, by simp at hlen; omega⟩
        clear hI hkg hdd hob hbel hsf a0 hx hx256 hcB cx0 hlt hvc hlies hvn hln hsf2 e hk hlen hcs
        go_wp2_with (first
          | (go_at_call 14; refine hput.mono ?_; rintro e2 w2 ⟨rfl, hd2, hb2⟩; have hwy := why_du w2 hd2; clear hput; have hte := tell_du (Nat.le_refl B) (Ow.but AE.out.2.2.2.1 hb2 AE.out.2.2.1 (by decide)) hd2 AE.out.2.2.2.2.2.2)
          | (go_at_call 17; refine hwy.mono ?_; rintro e3 w3 ⟨rfl, hw3⟩; subst hw3)
          | (go_at_call 22; refine hte.mono ?_; rintro e4 w4 ⟨v4, rfl, hob4, hd4, hb4⟩))
        have ae := AE.out
        go_roundg (gk - 1)
        case measure => omega
        case rel => exact ⟨k + 1, by go_num, by omega, s', W', acc ++ K, hd4, hob4, (ae.2.2.2.2.1.trans (hb2.below (Nat.le_refl _) (Nat.le_of_lt (Cells.lt ae.2.2.1)))).trans hb4, ae.2.2.2.2.2.1⟩
    · have t1 : ((k : Int) < (L : Int)) = False := eq_false (by omega)
      have t1' : (k < L) = False := eq_false hk
      have hend := end_c wr hdd
      obtain ⟨y, hy⟩ : ∃ y, finy s = y := ⟨_, rfl⟩
      rw [hy] at hend
      obtain ⟨r1, r2, r3⟩ := hsf.over (by omega)
      rw [hy] at r2
      have hkL : k = L := by omega
      have hlen := rn_len l 0 .no []
      rw [r1] at hlen
      simp [pend] at hlen
      obtain ⟨cs, hcs⟩ := hdd.cells
      have AE : Aside ((rn 0 .no [] l).out = acc ++ fin s W ∧ (rn 0 .no [] l).why = y ∧ (rn 0 .no [] l).at_ = L ∧ Cells wr B cs 51 ∧ Ob wr B (.slice va ln vc) acc ∧ Below B w wr ∧ w.heap.size = B ∧ acc.length + (fin s W).length ≤ 140737488355328) := ⟨r1, r2, by rw [r3, hkL], hcs, hob, hbel, a0.2.2.2.2, by omega⟩
      clear hI hkg hdd hob hbel hsf a0 hvc hlies hvn hln r1 r2 r3 hy hk hkL hcs hlen
      go_wp2_with (first
        | (go_at_call 18; refine hend.mono ?_; rintro e2 w2 ⟨rfl, hd2, hb2⟩; have hte := tell_dv (Nat.le_refl B) (Ow.but AE.out.2.2.2.2.1 hb2 AE.out.2.2.2.1 (by decide)) hd2 AE.out.2.2.2.2.2.2.2)
        | (go_at_call 22; refine hte.mono ?_; rintro e4 w4 ⟨v4, rfl, hob4, hd4, hb4⟩; have hwy := why_dv w4 hd4; obtain ⟨va4, vc4, hv4, _⟩ := hob4.shape; obtain ⟨ln4, hln4⟩ : ∃ ln4, (acc ++ fin s W).length = ln4 := ⟨_, rfl⟩; rw [hln4] at hv4; clear hln4; subst hv4)
        | (go_at_call 17; refine hwy.mono ?_; rintro e3 w3 ⟨rfl, hw3⟩; subst hw3))
      go_ret3
      have ae := AE.out
      refine ⟨_, by rw [ae.2.1, ae.2.2.1]; rfl, ?_, ?_⟩
      · rw [ae.1, ae.2.2.2.2.2.2.1]; exact hob4
      · rw [ae.2.2.2.2.2.2.1]; exact (ae.2.2.2.2.2.1.trans (hb2.below (Nat.le_refl _) (Nat.le_of_lt (Cells.lt ae.2.2.2.1)))).trans hb4
end Go.Proofs.Ytapljkenmgdkmaa

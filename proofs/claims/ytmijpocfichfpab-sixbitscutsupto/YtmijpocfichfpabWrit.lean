/-
  What Write comes to.
-/
import Derived.Test.YtmijpocfichfpabLines
namespace Go.Proofs.Ytmijpocfichfpab
open Go.RowKit
set_option linter.unusedVariables false
/-- make of an empty list with room for n bytes. -/
theorem made_room (n : Nat) (hn : n ≤ 100000000) (w : World) : ∃ cs : Array Value, cs.size = n ∧ (Instr.makeSlice 22 (.int .i64 0) (.int .i64 (n : Int))).run Try.prog w = .ok (.slice (some ⟨w.heap.size, 0, none⟩) 0 n) (w.alloc (.cells cs 5)) := by
  obtain ⟨i, hi, hz, hs, hb⟩ := ginfo_parts ginfo5
  have := run_make (P := Try.prog) w 22 5 i _ Try.underlying22 hi hz .i64 .i64 0 n (by omega) (by omega) (by rw [hb]; omega) (by omega)
  refine ⟨_, ?_, this⟩
  rw [hs]
  show (madeCells #[Value.int .u8 0] _).size = _
  rw [← Array.length_toList, toList_madeCells_one]
  simp
theorem Ob.room {w : World} {lo n : Nat} {cs : Array Value} (h : lo ≤ w.heap.size) (hn : n ≤ 100000000) (hc : cs.size = n) : Ob (w.alloc (.cells cs 5)) lo (.slice (some ⟨w.heap.size, 0, none⟩) 0 n) [] :=
  ⟨World.ownsRow_made (base := lo) (e := 5) (size := 1) w cs n h (by unfold maxLen; omega) (by omega), by show _ ≤ (w.heap.push _).size; simp; omega⟩
theorem Ow.lower {w : World} {lo lo2 : Nat} {e : TypeId} {v : Value} {xs : List Value} (h : Ow w lo e v xs) (k : lo2 ≤ lo) : Ow w lo2 e v xs := by
  refine ⟨⟨h.own.1, ?_⟩, Nat.le_trans k h.le⟩
  rcases h.own.2 with q | ⟨g, c, cur, hv, hg, hh, q⟩
  · exact Or.inl q
  · exact Or.inr ⟨g, c, cur, hv, by omega, hh, q⟩
theorem g3_four {l : List Nat} (h : 0 < l.length) : ∃ p0 p1 p2 p3 : Nat, g3 l = [p0, p1, p2, p3] := by
  match l, h with
  | [a], _ => exact ⟨_, _, _, _, rfl⟩
  | [a, b], _ => exact ⟨_, _, _, _, rfl⟩
  | a :: b :: c :: l, _ => exact ⟨_, _, _, _, rfl⟩
theorem lies_four {w : World} {F : Nat} {t : TypeId} {p0 p1 p2 p3 : Nat} (h : Cells w F #[.int .u8 (p0 : Int), .int .u8 (p1 : Int), .int .u8 (p2 : Int), .int .u8 (p3 : Int)] t) : Lies w (some ⟨F, 0, none⟩) [p0, p1, p2, p3] := Or.inr ⟨F, 0, rfl, fun k z hz => by
  have hk : k < 4 := by have := (List.getElem?_eq_some_iff.1 hz).1; simpa using this
  rw [Nat.zero_add, h.cell k]
  match k, hk, hz with
  | 0, _, hz => cases hz; rfl
  | 1, _, hz => cases hz; rfl
  | 2, _, hz => cases hz; rfl
  | 3, _, hz => cases hz; rfl⟩
set_option maxRecDepth 20000 in
set_option maxHeartbeats 1000000 in
theorem writes_c (w : World) (a : Option Addr) (l : List Nat) (L C : Nat) (line : Int) (hl : Lies w a l) (hL : l.length = L) (hLb : L ≤ 2000000) (hLC : L ≤ C) (ho : Oct l) (hln : line < 9223372036854775808) (haz : a = none → L = 0 ∧ C = 0) :
    Calls Try.prog 4 #[.slice a L C, .int .i64 line] w fun e w' => ∃ v, e = .returned v ∧ Ob w' w.heap.size v (wri l line) ∧ Below w.heap.size w w' := by
  obtain ⟨B, hB⟩ : ∃ B, w.heap.size = B := ⟨_, rfl⟩
  rw [hB]
  obtain ⟨room, hroom0⟩ : ∃ room, (L + 2) / 3 * 4 = room := ⟨_, rfl⟩
  have hroomb : room ≤ 100000000 := by omega
  obtain ⟨cs, hcs, hmk⟩ := made_room room hroomb w
  have hob1 : Ob (w.alloc (.cells cs 5)) B (.slice (some ⟨w.heap.size, 0, none⟩) 0 room) [] := Ob.room (by omega) hroomb hcs
  have b1 : Below B w (w.alloc (.cells cs 5)) := by rw [← hB]; exact (Below.refl _ w).alloc (Nat.le_refl _) _
  rw [hB] at hmk hob1
  obtain ⟨w1, hw1⟩ : ∃ w1, w.alloc (.cells cs 5) = w1 := ⟨_, rfl⟩
  rw [hw1] at hmk hob1 b1
  have hroom : ((L : Int) + 2) / 3 * 4 = (room : Int) := by omega
  have hLi : (L : Int) ≤ 2000000 := by omega
  have A : Aside (Lies w a l ∧ l.length = L ∧ L ≤ 2000000 ∧ L ≤ C ∧ Oct l ∧ line < 9223372036854775808 ∧ w.heap.size = B ∧ (a = none → L = 0 ∧ C = 0) ∧ Ob w1 B (.slice (some ⟨B, 0, none⟩) 0 room) [] ∧ Below B w w1) := ⟨hl, hL, hLb, hLC, ho, hln, hB, haz, hob1, b1⟩
  clear hl hL hLb hLC ho hln haz hob1 b1 hroom0 hroomb hcs hw1 hB
  go_enter Try.func4, Try.ntmps4
  go_wp2_with fail
  clear hmk hroom
  go_loopg [0, 5] L (fun gg s0 s5 wr => ∃ (k m c : Nat) (a2 : Option Addr), s0 = .slice a2 m c ∧ Aside (m = gg ∧ m ≤ c ∧ (a2 = none → m = 0 ∧ c = 0) ∧ m ≤ L ∧ Lies w a2 (l.drop k) ∧ (l.drop k).length = m ∧ ∃ acc, Ob wr B s5 acc ∧ acc ++ enc (l.drop k) = enc l ∧ Below B w wr))
  case atStart =>
    have a0 := A.out
    exact ⟨0, L, C, a, rfl, rfl, a0.2.2.2.1, a0.2.2.2.2.2.2.2.1, Nat.le_refl _, a0.1, by simpa using a0.2.1, [], a0.2.2.2.2.2.2.2.2.1, rfl, a0.2.2.2.2.2.2.2.2.2⟩
  case round =>
    obtain ⟨k, m, c, a2, rfl, hI⟩ := hrel
    obtain ⟨hmg, hmc, han, hmL, hlk, hlen, acc, hob, hacc, hbel⟩ := hI.out
    have a0 := A.out
    obtain ⟨va, vc, hv, hvc, hlies, hvn⟩ := hob.shape
    obtain ⟨ln, hln⟩ : ∃ ln, acc.length = ln := ⟨_, rfl⟩
    rw [hln] at hv
    subst hv
    have hel := enc_len l
    have hsum : acc.length + (enc (l.drop k)).length = (L + 2) / 3 * 4 := by
      have := congrArg List.length hacc
      rw [List.length_append, hel, a0.2.1] at this
      exact this
    by_cases hk : 0 < m
    · obtain ⟨b, o, ha2⟩ : ∃ b o, a2 = some ⟨b, o, none⟩ := by
        rcases hlk with e | ⟨b, o, e, _⟩
        · rw [e] at hlen; simp at hlen; omega
        · exact ⟨b, o, e⟩
      subst ha2
      have t1 : ((0 : Int) < (m : Int)) = True := eq_true (by omega)
      have t1' : (0 < m) = True := eq_true hk
      obtain ⟨q, hq⟩ : ∃ q, min 3 m = q := ⟨_, rfl⟩
      have hmb : (m : Int) ≤ 2000000 := by omega
      have hqi : (if (m : Int) < 3 then (m : Int) else 3) = (q : Int) := by split <;> omega
      have hq3 : q ≤ 3 ∧ 0 < q ∧ q ≤ m ∧ q ≤ c := by omega
      have htk : (l.drop k).take 3 = (l.drop k).take q := by
        rw [← hq, List.take_eq_take_iff, hlen]
        omega
      have hdk : (l.drop k).drop 3 = (l.drop k).drop q := by
        by_cases h3 : 3 ≤ m
        · rw [show q = 3 by omega]
        · rw [List.drop_eq_nil_of_le (by omega), List.drop_eq_nil_of_le (by omega)]
      have hst := enc_step (l := l.drop k) (fun e => by rw [e] at hlen; simp at hlen; omega)
      rw [htk, hdk, List.drop_drop] at hst
      have hlq : Lies wr (some ⟨b, o, none⟩) ((l.drop k).take q) := (hlk.take q).below (by rw [a0.2.2.2.2.2.2.1]; exact hbel)
      have hlqn : ((l.drop k).take q).length = q := by rw [List.length_take]; omega
      obtain ⟨p0, p1, p2, p3, hp⟩ := g3_four (l := (l.drop k).take q) (by omega)
      have hw := write_c wr (some ⟨b, o, none⟩) ((l.drop k).take q) q c hlq hlqn (by omega) (by omega) (fun x hx => a0.2.2.2.2.1 x (List.mem_of_mem_drop (List.mem_of_mem_take hx)))
      rw [hp] at hw hst
      have sl1 := slice_to b o m c q (by omega)
      obtain ⟨o2, sl2, hl2⟩ := slice_from b o m c q (by omega) hmc
      have hsl := congrArg List.length hst
      rw [List.length_append] at hsl
      simp only [List.length_cons, List.length_nil] at hsl
      have AX : Aside (m = gk ∧ m ≤ c ∧ m ≤ L ∧ Lies w (some ⟨b, o2, none⟩) ((l.drop k).drop q) ∧ (l.drop k).length = m ∧ acc ++ enc (l.drop k) = enc l ∧ Below B w wr ∧ enc (l.drop k) = [p0, p1, p2, p3] ++ enc (l.drop (k + q)) ∧ q ≤ m ∧ 0 < q ∧ acc.length + 4 ≤ 140737488355328) := ⟨hmg, hmc, hmL, hl2 w _ hlen hlk, hlen, hacc, hbel, hst, hq3.2.2.1, hq3.2.1, by omega⟩
      clear hI hmg hmc han hmL hlk hlen hacc hbel a0 hvc hlies hvn hln hsum hk hel htk hdk hst hlq hlqn hp hl2 hsl hq hq3
      go_upto_region 4 with fail
      clear hqi hmb t1 t1'
      go_upto_region 5 with (go_at_call 8; refine hw.mono ?_; rintro e2 w2 ⟨he2, hb2⟩; obtain rfl := (show e2 = .returned (.agg #[.int .u8 (p0 : Int), .int .u8 (p1 : Int), .int .u8 (p2 : Int), .int .u8 (p3 : Int)]) from he2))
      have ax := AX.out
      obtain ⟨F, hF⟩ : ∃ F, w2.heap.size = F := ⟨_, rfl⟩
      have hFc := Cells.new w2 #[.int .u8 (p0 : Int), .int .u8 (p1 : Int), .int .u8 (p2 : Int), .int .u8 (p3 : Int)] 31
      have bF : Below w2.heap.size w2 (w2.alloc (.cells #[.int .u8 (p0 : Int), .int .u8 (p1 : Int), .int .u8 (p2 : Int), .int .u8 (p3 : Int)] 31)) := (Below.refl _ w2).alloc (Nat.le_refl _) _
      rw [hF] at hFc
      have hlF := lies_four hFc
      have hob2 : Ob w2 B (.slice va ln vc) acc := Ow.below hob hb2 (Nat.le_refl _)
      have hob3 : Ob (w2.alloc (.cells #[.int .u8 (p0 : Int), .int .u8 (p1 : Int), .int .u8 (p2 : Int), .int .u8 (p3 : Int)] 31)) B (.slice va ln vc) acc := Ow.below hob2 bF (Nat.le_refl _)
      have A3 : Aside (Below B w (w2.alloc (.cells #[.int .u8 (p0 : Int), .int .u8 (p1 : Int), .int .u8 (p2 : Int), .int .u8 (p3 : Int)] 31))) := (ax.2.2.2.2.2.2.1.trans (hb2.mono hob.le)).trans (bF.mono hob2.le)
      have AL : Aside (acc.length + 4 ≤ 140737488355328) := ax.2.2.2.2.2.2.2.2.2.2
      clear hob hb2 hFc bF hob2 ax hw sl1
      go_wp2_with (at_builtin; refine wpList_ob _ rfl (.tmp 24) (.tmp 25) rfl B (.slice va ln vc) acc (by rfl) hob3 (some ⟨F, 0, none⟩) [p0, p1, p2, p3] 4 4 rfl (by rfl) (by intro h; cases h) hlF AL.out ?_; intro v6 w6 hap)
      have ax := AX.out
      go_roundg (gk - q)
      case measure => omega
      case rel =>
        refine ⟨k + q, m - q, c - q, _, rfl, by omega, by omega, (fun h => by cases h), by omega, ?_, by rw [List.length_drop] at ax ⊢; omega, acc ++ [p0, p1, p2, p3], hap.ow, ?_, A3.out.trans hap.ap.bel⟩
        · have := ax.2.2.2.1
          rw [List.drop_drop] at this
          exact this
        · rw [← ax.2.2.2.2.2.1, ax.2.2.2.2.2.2.2.1]
          simp
    · have t1 : ((0 : Int) < (m : Int)) = False := eq_false (by omega)
      have t1' : (0 < m) = False := eq_false hk
      have hm0 : l.drop k = [] := List.eq_nil_of_length_eq_zero (by omega)
      rw [hm0] at hacc
      have hacc2 : acc = enc l := by simpa [enc] using hacc
      subst hacc2
      have hbl : ln ≤ 10000000 := by
        rw [← hln, hel, a0.2.1]
        omega
      by_cases hli : 0 < line
      · have t2 : ((0 : Int) < line) = True := eq_true hli
        obtain ⟨nl, hnl⟩ : ∃ nl : Nat, line = (nl : Int) := ⟨line.toNat, by omega⟩
        subst hnl
        have hlc := lines_c wr va (enc l) ln vc nl hlies hln hbl (by omega) (by omega) (by omega) (by rw [← hln]; exact hvn)
        have AX : Aside (Below B w wr ∧ B ≤ wr.heap.size ∧ wri l (nl : Int) = dbrk nl 0 (enc l)) := ⟨hbel, hob.le, by unfold wri; rw [if_neg (by omega)]; simp⟩
        clear hI hmg hmc han hmL hlk hlen hacc hbel a0 hvc hlies hvn hln hsum hk hel hm0 hob hbl
        go_wp2_with (go_at_call 9; refine hlc.mono ?_; rintro e2 w2 ⟨v2, rfl, hob2, hb2⟩)
        go_ret
        have ax := AX.out
        refine ⟨v2, rfl, ?_, ax.1.trans (hb2.mono ax.2.1)⟩
        rw [ax.2.2]
        exact Ow.lower hob2 ax.2.1
      · have t2 : ((0 : Int) < line) = False := eq_false hli
        have AX : Aside (Below B w wr ∧ Ob wr B (.slice va ln vc) (enc l) ∧ wri l line = enc l) := ⟨hbel, hob, by unfold wri; rw [if_pos (by omega)]⟩
        clear hI hmg hmc han hmL hlk hlen hacc hbel a0 hvc hlies hvn hln hsum hk hel hm0 hob hbl
        go_wp2_with fail
        go_ret
        have ax := AX.out
        refine ⟨.slice va ln vc, rfl, ?_, ax.1⟩
        rw [ax.2.2]
        exact ax.2.1
end Go.Proofs.Ytmijpocfichfpab

/-
  MimetypeBetween's walk.
-/
import Derived.Test.YtdndlegfalmkaaaBwm
namespace Go.Proofs.Ytdndlegfalmkaaa
open Go.RowKit
set_option linter.unusedVariables false
set_option linter.unusedSimpArgs false
def onel (v : List Nat) : List Nat := [97, 47, 98, 59, 32, 99, 61] ++ wr v
theorem px_facts (A : List Nat) (k : Nat) (f : Fd) (b : List Nat) (hb : f.1.length + f.2.length ≤ 1000000000) (hx : b.length ≤ 100000000000) :
    ∃ (Q0 NN Q1 Q2 Q3 ON V X D1 D2 D3 D4 D5 D6 D7 D8 : ByteArray) (q0 nn q1 q2 q3 on v x d1 d2 d3 d4 d5 d6 d7 : Nat),
      (st (pu A k) = Q0 ∧ st (mxf A 0 f.1) = NN ∧ st (pu A (k + 1)) = Q1 ∧ st (pu A (k + 2)) = Q2 ∧ st (pu A (k + 3)) = Q3 ∧ st (onel f.2) = ON ∧ st b = X ∧ st (b ++ pxl (pxo A k f)) = D8) ∧
      ((⟨#[59]⟩ : ByteArray) ++ Q0 = D1 ∧ D1 ++ NN = D2 ∧ D2 ++ Q1 = D3 ∧ D3 ++ (⟨#[61]⟩ : ByteArray) = D4 ∧ D4 ++ Q2 = D5 ∧ ON.extract 7 on = V ∧ D5 ++ V = D6 ∧ D6 ++ Q3 = D7 ∧ X ++ D7 = D8) ∧
      (Q0.size = q0 ∧ NN.size = nn ∧ Q1.size = q1 ∧ Q2.size = q2 ∧ Q3.size = q3 ∧ ON.size = on ∧ V.size = v ∧ X.size = x ∧ D1.size = d1 ∧ D2.size = d2 ∧ D3.size = d3 ∧ D4.size = d4 ∧ D5.size = d5 ∧ D6.size = d6 ∧ D7.size = d7) ∧
      (q0 ≤ 1000000000000 ∧ nn ≤ 1000000000000 ∧ q1 ≤ 1000000000000 ∧ q2 ≤ 1000000000000 ∧ q3 ≤ 1000000000000 ∧ on ≤ 1000000000000 ∧ v ≤ 1000000000000 ∧ x ≤ 1000000000000 ∧ d1 ≤ 1000000000000 ∧ d2 ≤ 1000000000000 ∧ d3 ≤ 1000000000000 ∧ d4 ≤ 1000000000000 ∧ d5 ≤ 1000000000000 ∧ d6 ≤ 1000000000000 ∧ d7 ≤ 1000000000000 ∧ 7 ≤ on) := by
  have h0 := pu_len A k
  have h1 := pu_len A (k + 1)
  have h2 := pu_len A (k + 2)
  have h3 := pu_len A (k + 3)
  have h4 := wr_len f.2
  have h5 := mxf_len A f.1 0
  have hon : (onel f.2).length = 7 + (wr f.2).length := by unfold onel; simp; omega
  refine ⟨st (pu A k), st (mxf A 0 f.1), st (pu A (k + 1)), st (pu A (k + 2)), st (pu A (k + 3)), st (onel f.2), st (wr f.2), st b, st ([59] ++ pu A k), st (([59] ++ pu A k) ++ mxf A 0 f.1), st ((([59] ++ pu A k) ++ mxf A 0 f.1) ++ pu A (k + 1)), st (((([59] ++ pu A k) ++ mxf A 0 f.1) ++ pu A (k + 1)) ++ [61]), st ((((([59] ++ pu A k) ++ mxf A 0 f.1) ++ pu A (k + 1)) ++ [61]) ++ pu A (k + 2)), st (((((([59] ++ pu A k) ++ mxf A 0 f.1) ++ pu A (k + 1)) ++ [61]) ++ pu A (k + 2)) ++ wr f.2), st ((((((([59] ++ pu A k) ++ mxf A 0 f.1) ++ pu A (k + 1)) ++ [61]) ++ pu A (k + 2)) ++ wr f.2) ++ pu A (k + 3)), st (b ++ pxl (pxo A k f)), _, _, _, _, _, _, _, _, _, _, _, _, _, _, _, ⟨rfl, rfl, rfl, rfl, rfl, rfl, rfl, rfl⟩, ⟨st_append [59] _, st_append _ _, st_append _ _, st_append _ [61], st_append _ _, ?_, st_append _ _, st_append _ _, ?_⟩, ⟨rfl, rfl, rfl, rfl, rfl, rfl, rfl, rfl, rfl, rfl, rfl, rfl, rfl, rfl, rfl⟩, ?_⟩
  · rw [st_size, st_extract, List.take_length]
    unfold onel
    rfl
  · rw [st_append, px_parts]
  · simp only [st_size, List.length_append, List.length_cons, List.length_nil]
    refine ⟨?_, ?_, ?_, ?_, ?_, ?_, ?_, ?_, ?_, ?_, ?_, ?_, ?_, ?_, ?_, ?_⟩ <;> omega
set_option maxRecDepth 20000 in
set_option maxHeartbeats 16000000 in
theorem between_core (w : World) (m s : List Nat) (a : Option Addr) (L c : Nat) (T : List Fd) (a2 : Option Addr) (N c2 : Nat) (A : List Nat) (hv : FL w (.slice a L c) T) (hT : OctF T) (hm : Oct m) (hs : Oct s) (hb : m.length + s.length + wt T ≤ 1000000000) (hA : Lies w a2 A) (hN : A.length = N) (hNb : N ≤ 1000000000) (hoA : Oct A) : Calls Try.prog 8 #[.agg #[.string (st m), .string (st s), .slice a L c], .slice a2 N c2] w fun e w' => e = .returned (.bool true) ∧ Below w.heap.size w w' := by
  obtain ⟨H, hH⟩ : ∃ H, w.heap.size = H := ⟨_, rfl⟩
  obtain ⟨w1, hw1⟩ : ∃ w1, w1 = w.alloc (.cells #[.string (st m), .string (st s), .slice a L c] 24) := ⟨_, rfl⟩
  have b1 : Below w.heap.size w w1 := by rw [hw1]; exact (Below.refl _ w).alloc (Nat.le_refl _) _
  have k1 : Cells w1 H #[.string (st m), .string (st s), .slice a L c] 24 := by rw [hw1, ← hH]; exact Cells.new w _ 24
  have f1 := hv.below b1
  have htx := text_c w1 m s a L c T f1 hT hm hs (by omega)
  have hawk := fun W => awake_c W
  obtain ⟨M, hM⟩ : ∃ M, st m = M := ⟨_, rfl⟩
  obtain ⟨S, hS⟩ : ∃ S, st s = S := ⟨_, rfl⟩
  rw [hM, hS] at htx k1 hw1 ⊢
  have x0 : w1.cell? ⟨H, 0, none⟩ = some (.string M) := by rw [k1.cell]; rfl
  have x1 : w1.cell? ⟨H, 1, none⟩ = some (.string S) := by rw [k1.cell]; rfl
  have x2 : w1.cell? ⟨H, 2, none⟩ = some (.slice a L c) := by rw [k1.cell]; rfl
  rw [hH] at b1 ⊢
  have A1 : Aside (Below H w w1 ∧ w.heap.size = H ∧ H ≤ w1.heap.size) := ⟨b1, hH, Nat.le_of_lt k1.lt⟩
  cases hR : tx (m, s, T) with
  | none =>
    rw [hR] at htx
    replace htx : Calls Try.prog 17 #[.agg #[.string M, .string S, .slice a L c]] w1 fun e w' => e = .returned (.tuple #[.string ⟨#[]⟩, .bool false]) ∧ Below w1.heap.size w1 w' := htx
    clear hv hT hm hs hb b1 k1 f1 hM hS hR hH hA hN hNb hoA
    go_enter Try.func8, Try.ntmps8
    go_upto_region 1 with fail
    (try simp only [A1.out.2.1])
    rw [← hw1]
    clear hw1
    go_wp2_with (first
      | (go_at_call 17; (with_reducible refine htx.mono ?_); rintro e1 w2 ⟨rfl, hb2⟩)
      | (go_at_call 16; (with_reducible refine (hawk _).mono ?_); rintro e3 w3 ⟨rfl, hb3⟩))
    first | go_ret | go_ret2
    have s2 := hb2.size
    obtain ⟨aB, aH, aS⟩ := A1.out
    exact ⟨rfl, (aB.trans (hb2.mono aS)).trans (hb3.mono (by omega))⟩
  | some x =>
    rw [hR] at htx
    replace htx : Calls Try.prog 17 #[.agg #[.string M, .string S, .slice a L c]] w1 fun e w' => e = .returned (.tuple #[.string (st x), .bool true]) ∧ Below w1.heap.size w1 w' := htx
    have hput : ∀ W (k : Nat), Below H w W → k ≤ 10000000000 → Calls Try.prog 25 #[.slice a2 N c2, .int .i64 (k : Int)] W fun e w' => e = .returned (.string (st (pu A k))) ∧ Below W.heap.size W w' := fun W k hW hk => put_c W a2 N c2 A k (hA.below (by rw [hH]; exact hW)) hN hNb hk hoA
    have hput0 : ∀ W, Below H w W → Calls Try.prog 25 #[.slice a2 N c2, .int .i64 0] W fun e w' => e = .returned (.string (st (pu A 0))) ∧ Below W.heap.size W w' := fun W hW => hput W 0 hW (by omega)
    have hput1 : ∀ W, Below H w W → Calls Try.prog 25 #[.slice a2 N c2, .int .i64 1] W fun e w' => e = .returned (.string (st (pu A 1))) ∧ Below W.heap.size W w' := fun W hW => hput W 1 hW (by omega)
    have hput2 : ∀ W, Below H w W → Calls Try.prog 25 #[.slice a2 N c2, .int .i64 2] W fun e w' => e = .returned (.string (st (pu A 2))) ∧ Below W.heap.size W w' := fun W hW => hput W 2 hW (by omega)
    have hput3 : ∀ W, Below H w W → Calls Try.prog 25 #[.slice a2 N c2, .int .i64 3] W fun e w' => e = .returned (.string (st (pu A 3))) ∧ Below W.heap.size W w' := fun W hW => hput W 3 hW (by omega)
    have hmxm : ∀ W, Below H w W → Calls Try.prog 24 #[.string M, .slice a2 N c2] W fun e w' => e = .returned (.string (st (mxf A 0 m))) ∧ Below W.heap.size W w' := fun W hW => by rw [← hM]; exact mixed_c W m a2 N c2 A hm (by omega) (hA.below (by rw [hH]; exact hW)) hN hNb hoA
    have hmxs : ∀ W, Below H w W → Calls Try.prog 24 #[.string S, .slice a2 N c2] W fun e w' => e = .returned (.string (st (mxf A 0 s))) ∧ Below W.heap.size W w' := fun W hW => by rw [← hS]; exact mixed_c W s a2 N c2 A hs (by omega) (hA.below (by rw [hH]; exact hW)) hN hNb hoA
    have hmx : ∀ W (f : Fd), f ∈ T → Below H w W → Calls Try.prog 24 #[.string (st f.1), .slice a2 N c2] W fun e w' => e = .returned (.string (st (mxf A 0 f.1))) ∧ Below W.heap.size W w' := fun W f hf hW => mixed_c W f.1 a2 N c2 A (hT f hf).1 (by have := wt_mem hf; omega) (hA.below (by rw [hH]; exact hW)) hN hNb hoA
    have hTL := hv.len
    have hwl := wt_len T
    have hbxo : Oct (bx A m s T L) := bx_oct hm hs hT L
    have hbxl := bx_len A m s T L
    obtain ⟨XF, hXF⟩ : ∃ XF, st (bx A m s T L) = XF := ⟨_, rfl⟩
    have hbty : ty (bx A m s T L) = some (m, s, T) := by rw [← hTL]; exact bx_ty hR
    have hty := fun W => type_ok2 (bx A m s T L) hbxo (by omega) W (m, s, T) hbty XF M S hXF hM hS
    have hfq : ∀ W va n c3, FL W (.slice va n c3) T → Below H w W → Calls Try.prog 21 #[.slice va n c3, .slice a L c] W fun e w' => e = .returned (.bool true) ∧ Below W.heap.size W w' := fun W va n c3 hF hW => by
      have h := feq_c W (.slice va n c3) (.slice a L c) T T hF (hv.below (by rw [hH]; exact hW)) hT hT (by omega)
      rw [decide_eq_true rfl] at h
      exact h.mono fun e w' h => by
        obtain ⟨h1, n', h2⟩ := h
        exact ⟨h1, by rw [h2]; exact Below.drewN2 (Below.refl _ _) _⟩
    have hq : ∀ W, Cells W H #[.string M, .string S, .slice a L c] 24 → W.cell? ⟨H, 0, none⟩ = some (.string M) ∧ W.cell? ⟨H, 1, none⟩ = some (.string S) ∧ W.cell? ⟨H, 2, none⟩ = some (.slice a L c) := fun W k => ⟨by rw [k.cell]; rfl, by rw [k.cell]; rfl, by rw [k.cell]; rfl⟩
    have AH : Aside (w.heap.size = H ∧ FL w (.slice a L c) T ∧ OctF T ∧ T.length = L ∧ m.length + s.length + wt T ≤ 1000000000 ∧ wt T ≤ 1000000000 ∧ L ≤ 1000000000 ∧ Cells w1 H #[.string M, .string S, .slice a L c] 24 ∧ st (bx A m s T L) = XF) := ⟨hH, hv, hT, hTL, hb, by omega, by omega, k1, hXF⟩
    have q0 := pu_len A 0
    have q1 := pu_len A 1
    have q2 := pu_len A 2
    have q3 := pu_len A 3
    have q4 := mxf_len A m 0
    have q5 := mxf_len A s 0
    have e1 : st (mxf A 0 m) ++ st (pu A 0) = st (mxf A 0 m ++ pu A 0) := st_append _ _
    have e2 : st (mxf A 0 m ++ pu A 0) ++ ⟨#[47]⟩ = st ((mxf A 0 m ++ pu A 0) ++ [47]) := st_append _ [47]
    have e3 : st ((mxf A 0 m ++ pu A 0) ++ [47]) ++ st (pu A 1) = st (((mxf A 0 m ++ pu A 0) ++ [47]) ++ pu A 1) := st_append _ _
    have e4 : st (((mxf A 0 m ++ pu A 0) ++ [47]) ++ pu A 1) ++ st (mxf A 0 s) = st ((((mxf A 0 m ++ pu A 0) ++ [47]) ++ pu A 1) ++ mxf A 0 s) := st_append _ _
    have e5 : st ((((mxf A 0 m ++ pu A 0) ++ [47]) ++ pu A 1) ++ mxf A 0 s) ++ st (pu A 2) = st (((((mxf A 0 m ++ pu A 0) ++ [47]) ++ pu A 1) ++ mxf A 0 s) ++ pu A 2) := st_append _ _
    have e6 : st (pu A 3) ++ st (((((mxf A 0 m ++ pu A 0) ++ [47]) ++ pu A 1) ++ mxf A 0 s) ++ pu A 2) = st (bx A m s T 0) := by rw [st_append, bs_parts]; simp [bx, pxs]
    have zMM : (st (mxf A 0 m)).size = (mxf A 0 m).length := st_size _
    obtain ⟨nMM, hnMM⟩ : ∃ nMM, (mxf A 0 m).length = nMM := ⟨_, rfl⟩
    have zP0 : (st (pu A 0)).size = (pu A 0).length := st_size _
    obtain ⟨nP0, hnP0⟩ : ∃ nP0, (pu A 0).length = nP0 := ⟨_, rfl⟩
    have zP1 : (st (pu A 1)).size = (pu A 1).length := st_size _
    obtain ⟨nP1, hnP1⟩ : ∃ nP1, (pu A 1).length = nP1 := ⟨_, rfl⟩
    have zSS : (st (mxf A 0 s)).size = (mxf A 0 s).length := st_size _
    obtain ⟨nSS, hnSS⟩ : ∃ nSS, (mxf A 0 s).length = nSS := ⟨_, rfl⟩
    have zP2 : (st (pu A 2)).size = (pu A 2).length := st_size _
    obtain ⟨nP2, hnP2⟩ : ∃ nP2, (pu A 2).length = nP2 := ⟨_, rfl⟩
    have zP3 : (st (pu A 3)).size = (pu A 3).length := st_size _
    obtain ⟨nP3, hnP3⟩ : ∃ nP3, (pu A 3).length = nP3 := ⟨_, rfl⟩
    have zC1 : (st (mxf A 0 m ++ pu A 0)).size = (mxf A 0 m ++ pu A 0).length := st_size _
    obtain ⟨nC1, hnC1⟩ : ∃ nC1, (mxf A 0 m ++ pu A 0).length = nC1 := ⟨_, rfl⟩
    have zC2 : (st ((mxf A 0 m ++ pu A 0) ++ [47])).size = ((mxf A 0 m ++ pu A 0) ++ [47]).length := st_size _
    obtain ⟨nC2, hnC2⟩ : ∃ nC2, ((mxf A 0 m ++ pu A 0) ++ [47]).length = nC2 := ⟨_, rfl⟩
    have zC3 : (st (((mxf A 0 m ++ pu A 0) ++ [47]) ++ pu A 1)).size = (((mxf A 0 m ++ pu A 0) ++ [47]) ++ pu A 1).length := st_size _
    obtain ⟨nC3, hnC3⟩ : ∃ nC3, (((mxf A 0 m ++ pu A 0) ++ [47]) ++ pu A 1).length = nC3 := ⟨_, rfl⟩
    have zC4 : (st ((((mxf A 0 m ++ pu A 0) ++ [47]) ++ pu A 1) ++ mxf A 0 s)).size = ((((mxf A 0 m ++ pu A 0) ++ [47]) ++ pu A 1) ++ mxf A 0 s).length := st_size _
    obtain ⟨nC4, hnC4⟩ : ∃ nC4, ((((mxf A 0 m ++ pu A 0) ++ [47]) ++ pu A 1) ++ mxf A 0 s).length = nC4 := ⟨_, rfl⟩
    have zC5 : (st (((((mxf A 0 m ++ pu A 0) ++ [47]) ++ pu A 1) ++ mxf A 0 s) ++ pu A 2)).size = (((((mxf A 0 m ++ pu A 0) ++ [47]) ++ pu A 1) ++ mxf A 0 s) ++ pu A 2).length := st_size _
    obtain ⟨nC5, hnC5⟩ : ∃ nC5, (((((mxf A 0 m ++ pu A 0) ++ [47]) ++ pu A 1) ++ mxf A 0 s) ++ pu A 2).length = nC5 := ⟨_, rfl⟩
    have gMM : nMM ≤ 3000000000 := by rw [← hnMM]; (try simp only [List.length_append, List.length_cons, List.length_nil]); omega
    have gP0 : nP0 ≤ 3000000000 := by rw [← hnP0]; (try simp only [List.length_append, List.length_cons, List.length_nil]); omega
    have gP1 : nP1 ≤ 3000000000 := by rw [← hnP1]; (try simp only [List.length_append, List.length_cons, List.length_nil]); omega
    have gSS : nSS ≤ 3000000000 := by rw [← hnSS]; (try simp only [List.length_append, List.length_cons, List.length_nil]); omega
    have gP2 : nP2 ≤ 3000000000 := by rw [← hnP2]; (try simp only [List.length_append, List.length_cons, List.length_nil]); omega
    have gP3 : nP3 ≤ 3000000000 := by rw [← hnP3]; (try simp only [List.length_append, List.length_cons, List.length_nil]); omega
    have gC1 : nC1 ≤ 3000000000 := by rw [← hnC1]; (try simp only [List.length_append, List.length_cons, List.length_nil]); omega
    have gC2 : nC2 ≤ 3000000000 := by rw [← hnC2]; (try simp only [List.length_append, List.length_cons, List.length_nil]); omega
    have gC3 : nC3 ≤ 3000000000 := by rw [← hnC3]; (try simp only [List.length_append, List.length_cons, List.length_nil]); omega
    have gC4 : nC4 ≤ 3000000000 := by rw [← hnC4]; (try simp only [List.length_append, List.length_cons, List.length_nil]); omega
    have gC5 : nC5 ≤ 3000000000 := by rw [← hnC5]; (try simp only [List.length_append, List.length_cons, List.length_nil]); omega
    rw [hnMM] at zMM
    rw [hnP0] at zP0
    rw [hnP1] at zP1
    rw [hnSS] at zSS
    rw [hnP2] at zP2
    rw [hnP3] at zP3
    rw [hnC1] at zC1
    rw [hnC2] at zC2
    rw [hnC3] at zC3
    rw [hnC4] at zC4
    rw [hnC5] at zC5
    obtain ⟨MM, hMM⟩ : ∃ MM, st (mxf A 0 m) = MM := ⟨_, rfl⟩
    obtain ⟨P0, hP0⟩ : ∃ P0, st (pu A 0) = P0 := ⟨_, rfl⟩
    obtain ⟨P1, hP1⟩ : ∃ P1, st (pu A 1) = P1 := ⟨_, rfl⟩
    obtain ⟨SS, hSS⟩ : ∃ SS, st (mxf A 0 s) = SS := ⟨_, rfl⟩
    obtain ⟨P2, hP2⟩ : ∃ P2, st (pu A 2) = P2 := ⟨_, rfl⟩
    obtain ⟨P3, hP3⟩ : ∃ P3, st (pu A 3) = P3 := ⟨_, rfl⟩
    obtain ⟨C1, hC1⟩ : ∃ C1, st (mxf A 0 m ++ pu A 0) = C1 := ⟨_, rfl⟩
    obtain ⟨C2, hC2⟩ : ∃ C2, st ((mxf A 0 m ++ pu A 0) ++ [47]) = C2 := ⟨_, rfl⟩
    obtain ⟨C3, hC3⟩ : ∃ C3, st (((mxf A 0 m ++ pu A 0) ++ [47]) ++ pu A 1) = C3 := ⟨_, rfl⟩
    obtain ⟨C4, hC4⟩ : ∃ C4, st ((((mxf A 0 m ++ pu A 0) ++ [47]) ++ pu A 1) ++ mxf A 0 s) = C4 := ⟨_, rfl⟩
    obtain ⟨C5, hC5⟩ : ∃ C5, st (((((mxf A 0 m ++ pu A 0) ++ [47]) ++ pu A 1) ++ mxf A 0 s) ++ pu A 2) = C5 := ⟨_, rfl⟩
    obtain ⟨X0, hX0⟩ : ∃ X0, st (bx A m s T 0) = X0 := ⟨_, rfl⟩
    simp only [hMM] at zMM
    simp only [hP0] at zP0
    simp only [hP1] at zP1
    simp only [hSS] at zSS
    simp only [hP2] at zP2
    simp only [hP3] at zP3
    simp only [hC1] at zC1
    simp only [hC2] at zC2
    simp only [hC3] at zC3
    simp only [hC4] at zC4
    simp only [hC5] at zC5
    rw [hMM] at hmxm e1
    rw [hSS] at hmxs e4
    rw [hP0] at hput0 e1
    rw [hP1] at hput1 e3
    rw [hP2] at hput2 e5
    rw [hP3] at hput3 e6
    rw [hC1] at e1 e2
    rw [hC2] at e2 e3
    rw [hC3] at e3 e4
    rw [hC4] at e4 e5
    rw [hC5] at e5 e6
    rw [hX0] at e6
    have u1 : (9223372036854775807 < nMM + nP0) = False := eq_false (by omega)
    have u2 : (9223372036854775807 < nC1 + 1) = False := eq_false (by omega)
    have u3 : (9223372036854775807 < nC2 + nP1) = False := eq_false (by omega)
    have u4 : (9223372036854775807 < nC3 + nSS) = False := eq_false (by omega)
    have u5 : (9223372036854775807 < nC4 + nP2) = False := eq_false (by omega)
    have u6 : (9223372036854775807 < nP3 + nC5) = False := eq_false (by omega)
    have AX : Aside (st (bx A m s T 0) = X0) := hX0
    clear hMM hnMM gMM hP0 hnP0 gP0 hP1 hnP1 gP1 hSS hnSS gSS hP2 hnP2 gP2 hP3 hnP3 gP3 hC1 hnC1 gC1 hC2 hnC2 gC2 hC3 hnC3 gC3 hC4 hnC4 gC4 hC5 hnC5 gC5 hX0 q0 q1 q2 q3 q4 q5
    clear hv hT hm hs hb b1 k1 f1 hM hS hR hH hA hN hNb hoA hTL hwl hbxo hbxl hXF hbty
    go_enter Try.func8, Try.ntmps8
    go_upto_region 1 with fail
    (try simp only [A1.out.2.1])
    rw [← hw1]
    clear hw1
    go_upto_region 4 with (go_at_call 17; (with_reducible refine htx.mono ?_); rintro e1 w2 ⟨rfl, hb2⟩)
    have B2 : Below H w w2 := A1.out.1.trans (hb2.mono A1.out.2.2)
    have K2 : Cells w2 H #[.string M, .string S, .slice a L c] 24 := Cells.below AH.out.2.2.2.2.2.2.2.1 hb2 AH.out.2.2.2.2.2.2.2.1.lt
    have D2 := hq w2 K2
    clear x0 x1 x2 htx hb2
    refine wp_region_held_drew (S := fun w' => w'.cell? ⟨H, 0, none⟩ = some (.string M) ∧ w'.cell? ⟨H, 1, none⟩ = some (.string S) ∧ w'.cell? ⟨H, 2, none⟩ = some (.slice a L c)) (by kernel_rfl) D2 (fun hHeld => ?_)
    refine wpAnyH_take (i := 0) (oi := ⟨_, _, _, _, _, _⟩) (v := ?_) rfl (by kernel_rfl) (by kernel_rfl) (by kernel_rfl) (fun _ _ _ h => h) (Or.inl ⟨by rfl, ?_⟩) hHeld ?_
    rotate_left
    · (intro w9 hSw; (try dsimp only at hSw); obtain ⟨qq0, qq1, qq2⟩ := hSw; go_simp; try (with_reducible rfl))
    try simp only [Act.put, List.setIfInBounds_toArray, List.set_cons_zero, List.set_cons_succ]
    refine wpAnyH_take (i := 1) (oi := ⟨_, _, _, _, _, _⟩) (v := ?_) rfl (by kernel_rfl) (by kernel_rfl) (by kernel_rfl) (fun _ _ _ h => h) (Or.inl ⟨by rfl, ?_⟩) hHeld ?_
    rotate_left
    · (intro w9 hSw; (try dsimp only at hSw); obtain ⟨qq0, qq1, qq2⟩ := hSw; go_simp; try (with_reducible rfl))
    try simp only [Act.put, List.setIfInBounds_toArray, List.set_cons_zero, List.set_cons_succ]
    refine wpAnyH_take (i := 2) (oi := ⟨_, _, _, _, _, _⟩) (v := ?_) rfl (by kernel_rfl) (by kernel_rfl) (by kernel_rfl) (fun _ _ _ h => h) (Or.inl ⟨by rfl, ?_⟩) hHeld ?_
    rotate_left
    · (intro w9 hSw; (try dsimp only at hSw); obtain ⟨qq0, qq1, qq2⟩ := hSw; go_simp; try (with_reducible rfl))
    try simp only [Act.put, List.setIfInBounds_toArray, List.set_cons_zero, List.set_cons_succ]
    refine wpAnyH_take (i := 4) (oi := ⟨_, _, _, _, _, _⟩) (v := ?_) rfl (by kernel_rfl) (by kernel_rfl) (by kernel_rfl) (fun _ _ _ h => h) (Or.inl ⟨by rfl, ?_⟩) hHeld ?_
    rotate_left
    · (intro w9 hSw; (try dsimp only at hSw); obtain ⟨qq0, qq1, qq2⟩ := hSw; go_simp; try (with_reducible rfl))
    try simp only [Act.put, List.setIfInBounds_toArray, List.set_cons_zero, List.set_cons_succ]
    refine wpAnyH_take (i := 8) (oi := ⟨_, _, _, _, _, _⟩) (v := ?_) rfl (by kernel_rfl) (by kernel_rfl) (by kernel_rfl) (fun _ _ _ h => h) (Or.inl ⟨by rfl, ?_⟩) hHeld ?_
    rotate_left
    · (intro w9 hSw; (try dsimp only at hSw); obtain ⟨qq0, qq1, qq2⟩ := hSw; go_simp; try (with_reducible rfl))
    try simp only [Act.put, List.setIfInBounds_toArray, List.set_cons_zero, List.set_cons_succ]
    refine wpAnyH_take (i := 11) (oi := ⟨_, _, _, _, _, _⟩) (v := ?_) rfl (by kernel_rfl) (by kernel_rfl) (by kernel_rfl) (fun _ _ _ h => h) (Or.inl ⟨by rfl, ?_⟩) hHeld ?_
    rotate_left
    · (intro w9 hSw; (try dsimp only at hSw); obtain ⟨qq0, qq1, qq2⟩ := hSw; go_simp; try (with_reducible rfl))
    try simp only [Act.put, List.setIfInBounds_toArray, List.set_cons_zero, List.set_cons_succ]
    refine wpAnyH_take (i := 12) (oi := ⟨_, _, _, _, _, _⟩) (v := ?_) rfl (by kernel_rfl) (by kernel_rfl) (by kernel_rfl) (fun _ _ _ h => h) (Or.inl ⟨by rfl, ?_⟩) hHeld ?_
    rotate_left
    · (intro w9 hSw; (try dsimp only at hSw); obtain ⟨qq0, qq1, qq2⟩ := hSw; go_simp; try (with_reducible rfl))
    try simp only [Act.put, List.setIfInBounds_toArray, List.set_cons_zero, List.set_cons_succ]
    refine wpAnyH_take (i := 13) (oi := ⟨_, _, _, _, _, _⟩) (v := ?_) rfl (by kernel_rfl) (by kernel_rfl) (by kernel_rfl) (fun _ _ _ h => h) (Or.inl ⟨by rfl, ?_⟩) hHeld ?_
    rotate_left
    · (intro w9 hSw; (try dsimp only at hSw); obtain ⟨qq0, qq1, qq2⟩ := hSw; go_simp; try (with_reducible rfl))
    try simp only [Act.put, List.setIfInBounds_toArray, List.set_cons_zero, List.set_cons_succ]
    refine wpAnyH_take (i := 16) (oi := ⟨_, _, _, _, _, _⟩) (v := ?_) rfl (by kernel_rfl) (by kernel_rfl) (by kernel_rfl) (fun _ _ _ h => h) (Or.inl ⟨by rfl, ?_⟩) hHeld ?_
    rotate_left
    · (intro w9 hSw; (try dsimp only at hSw); obtain ⟨qq0, qq1, qq2⟩ := hSw; go_simp; try (with_reducible rfl))
    try simp only [Act.put, List.setIfInBounds_toArray, List.set_cons_zero, List.set_cons_succ]
    refine wpAnyH_ready (rs := [3]) (by kernel_rfl) (by simp) ?_
    refine AllReadyH.cons (o := ⟨_, _, _, _, _, _⟩) rfl (fun K hK => ?_) AllReadyH.nil
    go_simp
    go_at_call 24
    refine (hmxm _ B2.drew).mono ?_
    rintro e3 w3 ⟨rfl, hb3⟩
    dsimp only
    have B3 : Below H w w3 := (B2.drew).trans (hb3.mono (by have h := (B2.drew).size; have hq := AH.out.1; omega))
    have K3 : Cells w3 H #[.string M, .string S, .slice a L c] 24 := Cells.below K2.drew hb3 (K2.drew).lt
    have D3 := hq _ K3
    refine hK.out _ _ D3 (fun hH3 => ?_)
    clear hK K
    try simp only [Act.put, List.setIfInBounds_toArray, List.set_cons_zero, List.set_cons_succ]
    refine wpAnyH_ready (rs := [5]) (by kernel_rfl) (by simp) ?_
    refine AllReadyH.cons (o := ⟨_, _, _, _, _, _⟩) rfl (fun K hK => ?_) AllReadyH.nil
    go_simp
    go_at_call 25
    refine (hput0 _ B3).mono ?_
    rintro e5 w5 ⟨rfl, hb5⟩
    dsimp only
    have B5 : Below H w w5 := (B3).trans (hb5.mono (by have h := (B3).size; have hq := AH.out.1; omega))
    have K5 : Cells w5 H #[.string M, .string S, .slice a L c] 24 := Cells.below K3 hb5 (K3).lt
    have D5 := hq _ K5
    refine hK.out _ _ D5 (fun hH5 => ?_)
    clear hK K
    try simp only [Act.put, List.setIfInBounds_toArray, List.set_cons_zero, List.set_cons_succ]
    refine wpAnyH_take (i := 6) (oi := ⟨_, _, _, _, _, _⟩) (v := ?_) rfl (by kernel_rfl) (by kernel_rfl) (by kernel_rfl) (fun _ _ _ h => h) (Or.inl ⟨by rfl, ?_⟩) hH5 ?_
    rotate_left
    · (intro w9 hSw; (try dsimp only at hSw); obtain ⟨qq0, qq1, qq2⟩ := hSw; go_simp; try (with_reducible rfl))
    try simp only [Act.put, List.setIfInBounds_toArray, List.set_cons_zero, List.set_cons_succ]
    refine wpAnyH_take (i := 7) (oi := ⟨_, _, _, _, _, _⟩) (v := ?_) rfl (by kernel_rfl) (by kernel_rfl) (by kernel_rfl) (fun _ _ _ h => h) (Or.inl ⟨by rfl, ?_⟩) hH5 ?_
    rotate_left
    · (intro w9 hSw; (try dsimp only at hSw); obtain ⟨qq0, qq1, qq2⟩ := hSw; go_simp; try (with_reducible rfl))
    try simp only [Act.put, List.setIfInBounds_toArray, List.set_cons_zero, List.set_cons_succ]
    refine wpAnyH_ready (rs := [9]) (by kernel_rfl) (by simp) ?_
    refine AllReadyH.cons (o := ⟨_, _, _, _, _, _⟩) rfl (fun K hK => ?_) AllReadyH.nil
    go_simp
    go_at_call 25
    refine (hput1 _ B5).mono ?_
    rintro e7 w7 ⟨rfl, hb7⟩
    dsimp only
    have B7 : Below H w w7 := (B5).trans (hb7.mono (by have h := (B5).size; have hq := AH.out.1; omega))
    have K7 : Cells w7 H #[.string M, .string S, .slice a L c] 24 := Cells.below K5 hb7 (K5).lt
    have D7 := hq _ K7
    refine hK.out _ _ D7 (fun hH7 => ?_)
    clear hK K
    try simp only [Act.put, List.setIfInBounds_toArray, List.set_cons_zero, List.set_cons_succ]
    refine wpAnyH_take (i := 10) (oi := ⟨_, _, _, _, _, _⟩) (v := ?_) rfl (by kernel_rfl) (by kernel_rfl) (by kernel_rfl) (fun _ _ _ h => h) (Or.inl ⟨by rfl, ?_⟩) hH7 ?_
    rotate_left
    · (intro w9 hSw; (try dsimp only at hSw); obtain ⟨qq0, qq1, qq2⟩ := hSw; go_simp; try (with_reducible rfl))
    try simp only [Act.put, List.setIfInBounds_toArray, List.set_cons_zero, List.set_cons_succ]
    refine wpAnyH_ready (rs := [14]) (by kernel_rfl) (by simp) ?_
    refine AllReadyH.cons (o := ⟨_, _, _, _, _, _⟩) rfl (fun K hK => ?_) AllReadyH.nil
    go_simp
    go_at_call 24
    refine (hmxs _ B7).mono ?_
    rintro e8 w8 ⟨rfl, hb8⟩
    dsimp only
    have B8 : Below H w w8 := (B7).trans (hb8.mono (by have h := (B7).size; have hq := AH.out.1; omega))
    have K8 : Cells w8 H #[.string M, .string S, .slice a L c] 24 := Cells.below K7 hb8 (K7).lt
    have D8 := hq _ K8
    refine hK.out _ _ D8 (fun hH8 => ?_)
    clear hK K
    try simp only [Act.put, List.setIfInBounds_toArray, List.set_cons_zero, List.set_cons_succ]
    refine wpAnyH_take (i := 15) (oi := ⟨_, _, _, _, _, _⟩) (v := ?_) rfl (by kernel_rfl) (by kernel_rfl) (by kernel_rfl) (fun _ _ _ h => h) (Or.inl ⟨by rfl, ?_⟩) hH8 ?_
    rotate_left
    · (intro w9 hSw; (try dsimp only at hSw); obtain ⟨qq0, qq1, qq2⟩ := hSw; go_simp; try (with_reducible rfl))
    try simp only [Act.put, List.setIfInBounds_toArray, List.set_cons_zero, List.set_cons_succ]
    refine wpAnyH_ready (rs := [17]) (by kernel_rfl) (by simp) ?_
    refine AllReadyH.cons (o := ⟨_, _, _, _, _, _⟩) rfl (fun K hK => ?_) AllReadyH.nil
    go_simp
    go_at_call 25
    refine (hput2 _ B8).mono ?_
    rintro e10 w10 ⟨rfl, hb10⟩
    dsimp only
    have B10 : Below H w w10 := (B8).trans (hb10.mono (by have h := (B8).size; have hq := AH.out.1; omega))
    have K10 : Cells w10 H #[.string M, .string S, .slice a L c] 24 := Cells.below K8 hb10 (K8).lt
    have D10 := hq _ K10
    refine hK.out _ _ D10 (fun hH10 => ?_)
    clear hK K
    try simp only [Act.put, List.setIfInBounds_toArray, List.set_cons_zero, List.set_cons_succ]
    refine wpAnyH_take (i := 18) (oi := ⟨_, _, _, _, _, _⟩) (v := ?_) rfl (by kernel_rfl) (by kernel_rfl) (by kernel_rfl) (fun _ _ _ h => h) (Or.inl ⟨by rfl, ?_⟩) hH10 ?_
    rotate_left
    · (intro w9 hSw; (try dsimp only at hSw); obtain ⟨qq0, qq1, qq2⟩ := hSw; go_simp; try (with_reducible rfl))
    try simp only [Act.put, List.setIfInBounds_toArray, List.set_cons_zero, List.set_cons_succ]
    refine wpAnyH_ready (rs := [19]) (by kernel_rfl) (by simp) ?_
    refine AllReadyH.cons (o := ⟨_, _, _, _, _, _⟩) rfl (fun K hK => ?_) AllReadyH.nil
    go_simp
    refine hK.out _ _ D10 (fun hH11 => ?_)
    clear hK K
    try simp only [Act.put, List.setIfInBounds_toArray, List.set_cons_zero, List.set_cons_succ]
    refine wpAnyH_done (by kernel_rfl) ?_ _
    dsimp only [Exit.then]
    have A10 : Aside (Below H w w10 ∧ Cells w10 H #[.string M, .string S, .slice a L c] 24) := ⟨B10, K10⟩
    clear hHeld hH3 hH5 hH7 hH8 hH10 hH11 D2 D3 D5 D7 D8 D10 hb3 hb5 hb7 hb8 hb10 B2 B3 B5 B7 B8 B10 K2 K3 K5 K7 K8 K10 hmxm hmxs hput0 hput1 hput2
    go_wp2_with (go_at_call 25; (with_reducible refine (hput3 _ A10.out.1).mono ?_); rintro e11 w11 ⟨rfl, hb11⟩)
    have A11 : Aside (Below H w w11 ∧ Cells w11 H #[.string M, .string S, .slice a L c] 24) := ⟨A10.out.1.trans (hb11.mono (by have h := A10.out.1.size; have h2 := AH.out.1; omega)), A10.out.2.below hb11 A10.out.2.lt⟩
    clear hb11 hput3 e1 e2 e3 e4 e5 e6 zMM zP0 zP1 zSS zP2 zP3 zC1 zC2 zC3 zC4 zC5 u1 u2 u3 u4 u5 u6
    go_loopg [7, 8] L (fun gg s7 s8 wr => ∃ (k : Nat) (X : ByteArray), s7 = .string X ∧ s8 = .int .i64 k ∧ Aside (k + gg = L ∧ st (bx A m s T k) = X ∧ Cells wr H #[.string M, .string S, .slice a L c] 24 ∧ Below H w wr))
    case atStart => exact ⟨0, X0, rfl, rfl, by omega, AX.out, A11.out.2, A11.out.1⟩
    case round =>
      obtain ⟨k, X, rfl, rfl, hI⟩ := hrel
      obtain ⟨hkg, hX, kH, bel⟩ := hI.out
      obtain ⟨hH, hv, hT, hTL, hb, hwt, hLb, _, hXF⟩ := AH.out
      have c2' := (hq wr kH).2.2
      by_cases hk : k < L
      · have hki : ((k : Int) < (L : Int)) = True := eq_true (by omega)
        have hkn : (k < L) = True := eq_true hk
        have hkb : (k : Int) < 1000000000000000 := by omega
        obtain ⟨f, hf⟩ : ∃ f, T[k]? = some f := ⟨_, List.getElem?_eq_getElem (by omega)⟩
        have hfm := List.mem_of_getElem? hf
        have hfw := wt_mem hfm
        obtain ⟨g, o, ha, d1, d2⟩ := hv.pick bel (by omega) hf
        have hpk := fun W (hW : Below H w W) => hv.pick hW (by omega) hf
        subst ha
        have hSS : ∀ W, Below H w W → Cells W H #[.string M, .string S, .slice (some ⟨g, o, none⟩) L c] 24 → W.cell? ⟨H, 2, none⟩ = some (.slice (some ⟨g, o, none⟩) L c) ∧ W.cell? ⟨g, o + k * 2, none⟩ = some (.string (st f.1)) := fun W hW hK => ⟨(hq W hK).2.2, by
          obtain ⟨g', o', ha', d1', _⟩ := hpk W hW
          cases ha'
          exact d1'⟩
        have hbl := bx_len A m s T k
        obtain ⟨Q0, NN, Q1, Q2, Q3, ON, V, X', D1, D2, D3, D4, D5, D6, D7, D8, q0, nn, q1, q2, q3, on, v, x', n1, n2, n3, n4, n5, n6, n7, ⟨y1, y2, y3, y4, y5, y6, y7, y8⟩, ⟨i1, i2, i3, i4, i5, i6, i7, i8, i9⟩, ⟨z1, z2, z3, z4, z5, z6, z7, z8, z9, z10, z11, z12, z13, z14, z15⟩, ⟨b1, b2, b3, b4, b5, b6, b7, b8, b9, b10, b11, b12, b13, b14, b15, b16⟩⟩ := px_facts A k f (bx A m s T k) (by omega) (by omega)
        rw [hX] at y7
        subst y7
        rw [← bx_next hf] at y8
        have ht9 := text_c (wr.alloc (.cells #[.string (st [99]), .string (st f.2)] 29)) [97] [98] (some ⟨wr.heap.size, 0, none⟩) 1 1 [([99], f.2)] (FL.cells (T := [([99], f.2)]) (Cells.new wr _ 29) 1) (by intro q hq; simp at hq; rw [hq]; exact ⟨by simp [Oct], (hT f hfm).2⟩) (by simp [Oct]) (by simp [Oct]) (by simp [wt]; omega)
        rw [tx_one] at ht9
        obtain ⟨XN, hXN⟩ : ∃ XN, st f.1 = XN := ⟨_, rfl⟩
        obtain ⟨Y, hY⟩ : ∃ Y, st f.2 = Y := ⟨_, rfl⟩
        have hmf := fun W hW => hmx W f hfm hW
        rw [hXN] at d1 hSS hmf
        rw [hY] at d2 ht9
        rw [y2] at hmf
        replace ht9 : Calls Try.prog 17 #[.agg #[.string ⟨#[97]⟩, .string ⟨#[98]⟩, .slice (some ⟨wr.heap.size, 0, none⟩) 1 1]] (wr.alloc (.cells #[.string ⟨#[99]⟩, .string Y] 29)) fun e w' => e = .returned (.tuple #[.string ON, .bool true]) ∧ Below (wr.alloc (.cells #[.string ⟨#[99]⟩, .string Y] 29)).heap.size (wr.alloc (.cells #[.string ⟨#[99]⟩, .string Y] 29)) w' := ht9.mono fun e w' h => ⟨by rw [← y6]; exact h.1, h.2⟩
        have hp0 : ∀ W, Below H w W → Calls Try.prog 25 #[.slice a2 N c2, .int .i64 (k : Int)] W fun e w' => e = .returned (.string Q0) ∧ Below W.heap.size W w' := fun W hW => by rw [← y1]; exact hput W k hW (by omega)
        have hp1 : ∀ W, Below H w W → Calls Try.prog 25 #[.slice a2 N c2, .int .i64 ((k : Int) + 1)] W fun e w' => e = .returned (.string Q1) ∧ Below W.heap.size W w' := fun W hW => by rw [← y3]; exact hput W (k + 1) hW (by omega)
        have hp2 : ∀ W, Below H w W → Calls Try.prog 25 #[.slice a2 N c2, .int .i64 ((k : Int) + 2)] W fun e w' => e = .returned (.string Q2) ∧ Below W.heap.size W w' := fun W hW => by rw [← y4]; exact hput W (k + 2) hW (by omega)
        have hp3 : ∀ W, Below H w W → Calls Try.prog 25 #[.slice a2 N c2, .int .i64 ((k : Int) + 3)] W fun e w' => e = .returned (.string Q3) ∧ Below W.heap.size W w' := fun W hW => by rw [← y5]; exact hput W (k + 3) hW (by omega)
        have ew : Aside (IntKind.i64.wrap ((k : Int) + 1) = (k : Int) + 1 ∧ IntKind.i64.wrap ((k : Int) + 2) = (k : Int) + 2 ∧ IntKind.i64.wrap ((k : Int) + 3) = (k : Int) + 3) := ⟨IntWalk.i64_in _ (by omega), IntWalk.i64_in _ (by omega), IntWalk.i64_in _ (by omega)⟩
        have bal : Below wr.heap.size wr (wr.alloc (.cells #[.string ⟨#[99]⟩, .string Y] 29)) := (Below.refl _ wr).alloc (Nat.le_refl _) _
        have t7 : ((on : Int) < 7) = False := eq_false (by omega)
        have t7' : (on < 7) = False := eq_false (by omega)
        have t7'' : ((7 : Int) ≤ (on : Int)) = True := eq_true (by omega)
        have t8'' : (7 ≤ on) = True := eq_true (by omega)
        have u1 : (9223372036854775807 < 1 + q0) = False := eq_false (by omega)
        have u1' : (9223372036854775807 < q0 + 1) = False := eq_false (by omega)
        have u2 : (9223372036854775807 < n1 + nn) = False := eq_false (by omega)
        have u3 : (9223372036854775807 < n2 + q1) = False := eq_false (by omega)
        have u4 : (9223372036854775807 < n3 + 1) = False := eq_false (by omega)
        have u5 : (9223372036854775807 < n4 + q2) = False := eq_false (by omega)
        have u6 : (9223372036854775807 < n5 + v) = False := eq_false (by omega)
        have u7 : (9223372036854775807 < n6 + q3) = False := eq_false (by omega)
        have u8 : (9223372036854775807 < x' + n7) = False := eq_false (by omega)
        have R : Aside (k + gk = L ∧ k < L ∧ st (bx A m s T (k + 1)) = D8 ∧ Cells (wr.alloc (.cells #[.string ⟨#[99]⟩, .string Y] 29)) H #[.string M, .string S, .slice (some ⟨g, o, none⟩) L c] 24 ∧ Below H w (wr.alloc (.cells #[.string ⟨#[99]⟩, .string Y] 29)) ∧ H ≤ (wr.alloc (.cells #[.string ⟨#[99]⟩, .string Y] 29)).heap.size) := ⟨hkg, hk, y8, kH.alloc _, bel.trans (bal.mono (Nat.le_of_lt kH.lt)), by have h1 := kH.lt; have h2 := bal.size; omega⟩
        clear hI hkg hX kH bel hH hv hT hTL hb hwt hLb hXF hk hf hfm hfw hpk hbl y1 y2 y3 y4 y5 y6 y8 b1 b2 b3 b4 b5 b6 b7 b8 b9 b10 b11 b12 b13 b14 b15 hXN hY bal hput hmx hty hfq
        go_upto_region 10 with (go_at_call 17; (with_reducible refine ht9.mono ?_); rintro e9 w12 ⟨rfl, hb12⟩)
        have B12 : Below H w w12 := R.out.2.2.2.2.1.trans (hb12.mono R.out.2.2.2.2.2)
        have K12 : Cells w12 H #[.string M, .string S, .slice (some ⟨g, o, none⟩) L c] 24 := R.out.2.2.2.1.below hb12 R.out.2.2.2.1.lt
        have DD := hSS w12 B12 K12
        clear d1 d2 c2' ht9 hb12
        go_upto_region 12 with fail
        refine wp_region_held_drew (S := fun w' => w'.cell? ⟨H, 2, none⟩ = some (.slice (some ⟨g, o, none⟩) L c) ∧ w'.cell? ⟨g, o + k * 2, none⟩ = some (.string XN)) (by kernel_rfl) DD (fun hHeld => ?_)
        refine wpAnyH_take (i := 0) (oi := ⟨_, _, _, _, _, _⟩) (v := ?_) rfl (by kernel_rfl) (by kernel_rfl) (by kernel_rfl) (fun _ _ _ h => h) (Or.inl ⟨by rfl, ?_⟩) hHeld ?_
        rotate_left
        · (intro w9 hSw; (try dsimp only at hSw); obtain ⟨qq0, qq1⟩ := hSw; go_simp; try (with_reducible rfl))
        try simp only [Act.put, List.setIfInBounds_toArray, List.set_cons_zero, List.set_cons_succ]
        refine wpAnyH_take (i := 1) (oi := ⟨_, _, _, _, _, _⟩) (v := ?_) rfl (by kernel_rfl) (by kernel_rfl) (by kernel_rfl) (fun _ _ _ h => h) (Or.inl ⟨by rfl, ?_⟩) hHeld ?_
        rotate_left
        · (intro w9 hSw; (try dsimp only at hSw); obtain ⟨qq0, qq1⟩ := hSw; go_simp; try (with_reducible rfl))
        try simp only [Act.put, List.setIfInBounds_toArray, List.set_cons_zero, List.set_cons_succ]
        refine wpAnyH_take (i := 2) (oi := ⟨_, _, _, _, _, _⟩) (v := ?_) rfl (by kernel_rfl) (by kernel_rfl) (by kernel_rfl) (fun _ _ _ h => h) (Or.inl ⟨by rfl, ?_⟩) hHeld ?_
        rotate_left
        · (intro w9 hSw; (try dsimp only at hSw); obtain ⟨qq0, qq1⟩ := hSw; go_simp; try (with_reducible rfl))
        try simp only [Act.put, List.setIfInBounds_toArray, List.set_cons_zero, List.set_cons_succ]
        refine wpAnyH_take (i := 5) (oi := ⟨_, _, _, _, _, _⟩) (v := ?_) rfl (by kernel_rfl) (by kernel_rfl) (by kernel_rfl) (fun _ _ _ h => h) (Or.inl ⟨by rfl, ?_⟩) hHeld ?_
        rotate_left
        · (intro w9 hSw; (try dsimp only at hSw); obtain ⟨qq0, qq1⟩ := hSw; go_simp; try (with_reducible rfl))
        try simp only [Act.put, List.setIfInBounds_toArray, List.set_cons_zero, List.set_cons_succ]
        refine wpAnyH_take (i := 6) (oi := ⟨_, _, _, _, _, _⟩) (v := ?_) rfl (by kernel_rfl) (by kernel_rfl) (by kernel_rfl) (fun _ _ _ h => h) (Or.inl ⟨by rfl, ?_⟩) hHeld ?_
        rotate_left
        · (intro w9 hSw; (try dsimp only at hSw); obtain ⟨qq0, qq1⟩ := hSw; go_simp; try (with_reducible rfl))
        try simp only [Act.put, List.setIfInBounds_toArray, List.set_cons_zero, List.set_cons_succ]
        refine wpAnyH_take (i := 7) (oi := ⟨_, _, _, _, _, _⟩) (v := ?_) rfl (by kernel_rfl) (by kernel_rfl) (by kernel_rfl) (fun _ _ _ h => h) (Or.inl ⟨by rfl, ?_⟩) hHeld ?_
        rotate_left
        · (intro w9 hSw; (try dsimp only at hSw); obtain ⟨qq0, qq1⟩ := hSw; go_simp; try (with_reducible rfl))
        try simp only [Act.put, List.setIfInBounds_toArray, List.set_cons_zero, List.set_cons_succ]
        refine wpAnyH_take (i := 8) (oi := ⟨_, _, _, _, _, _⟩) (v := ?_) rfl (by kernel_rfl) (by kernel_rfl) (by kernel_rfl) (fun _ _ _ h => h) (Or.inl ⟨by rfl, ?_⟩) hHeld ?_
        rotate_left
        · (intro w9 hSw; (try dsimp only at hSw); obtain ⟨qq0, qq1⟩ := hSw; go_simp; try (with_reducible rfl))
        try simp only [Act.put, List.setIfInBounds_toArray, List.set_cons_zero, List.set_cons_succ]
        refine wpAnyH_take (i := 9) (oi := ⟨_, _, _, _, _, _⟩) (v := ?_) rfl (by kernel_rfl) (by kernel_rfl) (by kernel_rfl) (fun _ _ _ h => h) (Or.inl ⟨by rfl, ?_⟩) hHeld ?_
        rotate_left
        · (intro w9 hSw; (try dsimp only at hSw); obtain ⟨qq0, qq1⟩ := hSw; go_simp; try (with_reducible rfl))
        try simp only [Act.put, List.setIfInBounds_toArray, List.set_cons_zero, List.set_cons_succ]
        refine wpAnyH_take (i := 10) (oi := ⟨_, _, _, _, _, _⟩) (v := ?_) rfl (by kernel_rfl) (by kernel_rfl) (by kernel_rfl) (fun _ _ _ h => h) (Or.inl ⟨by rfl, ?_⟩) hHeld ?_
        rotate_left
        · (intro w9 hSw; (try dsimp only at hSw); obtain ⟨qq0, qq1⟩ := hSw; go_simp; try (with_reducible rfl))
        try simp only [Act.put, List.setIfInBounds_toArray, List.set_cons_zero, List.set_cons_succ]
        refine wpAnyH_take (i := 11) (oi := ⟨_, _, _, _, _, _⟩) (v := ?_) rfl (by kernel_rfl) (by kernel_rfl) (by kernel_rfl) (fun _ _ _ h => h) (Or.inl ⟨by rfl, ?_⟩) hHeld ?_
        rotate_left
        · (intro w9 hSw; (try dsimp only at hSw); obtain ⟨qq0, qq1⟩ := hSw; go_simp; try (with_reducible rfl))
        try simp only [Act.put, List.setIfInBounds_toArray, List.set_cons_zero, List.set_cons_succ]
        refine wpAnyH_take (i := 14) (oi := ⟨_, _, _, _, _, _⟩) (v := ?_) rfl (by kernel_rfl) (by kernel_rfl) (by kernel_rfl) (fun _ _ _ h => h) (Or.inl ⟨by rfl, ?_⟩) hHeld ?_
        rotate_left
        · (intro w9 hSw; (try dsimp only at hSw); obtain ⟨qq0, qq1⟩ := hSw; go_simp; try (with_reducible rfl))
        try simp only [Act.put, List.setIfInBounds_toArray, List.set_cons_zero, List.set_cons_succ]
        refine wpAnyH_take (i := 15) (oi := ⟨_, _, _, _, _, _⟩) (v := ?_) rfl (by kernel_rfl) (by kernel_rfl) (by kernel_rfl) (fun _ _ _ h => h) (Or.inl ⟨by rfl, ?_⟩) hHeld ?_
        rotate_left
        · (intro w9 hSw; (try dsimp only at hSw); obtain ⟨qq0, qq1⟩ := hSw; go_simp; try (with_reducible rfl))
        try simp only [Act.put, List.setIfInBounds_toArray, List.set_cons_zero, List.set_cons_succ]
        refine wpAnyH_take (i := 16) (oi := ⟨_, _, _, _, _, _⟩) (v := ?_) rfl (by kernel_rfl) (by kernel_rfl) (by kernel_rfl) (fun _ _ _ h => h) (Or.inl ⟨by rfl, ?_⟩) hHeld ?_
        rotate_left
        · (intro w9 hSw; (try dsimp only at hSw); obtain ⟨qq0, qq1⟩ := hSw; go_simp; try (with_reducible rfl))
        try simp only [Act.put, List.setIfInBounds_toArray, List.set_cons_zero, List.set_cons_succ]
        refine wpAnyH_take (i := 20) (oi := ⟨_, _, _, _, _, _⟩) (v := ?_) rfl (by kernel_rfl) (by kernel_rfl) (by kernel_rfl) (fun _ _ _ h => h) (Or.inl ⟨by rfl, ?_⟩) hHeld ?_
        rotate_left
        · (intro w9 hSw; (try dsimp only at hSw); obtain ⟨qq0, qq1⟩ := hSw; go_simp; try (with_reducible rfl))
        try simp only [Act.put, List.setIfInBounds_toArray, List.set_cons_zero, List.set_cons_succ]
        refine wpAnyH_take (i := 21) (oi := ⟨_, _, _, _, _, _⟩) (v := ?_) rfl (by kernel_rfl) (by kernel_rfl) (by kernel_rfl) (fun _ _ _ h => h) (Or.inl ⟨by rfl, ?_⟩) hHeld ?_
        rotate_left
        · (intro w9 hSw; (try dsimp only at hSw); obtain ⟨qq0, qq1⟩ := hSw; go_simp; try (with_reducible rfl))
        try simp only [Act.put, List.setIfInBounds_toArray, List.set_cons_zero, List.set_cons_succ]
        refine wpAnyH_take (i := 22) (oi := ⟨_, _, _, _, _, _⟩) (v := ?_) rfl (by kernel_rfl) (by kernel_rfl) (by kernel_rfl) (fun _ _ _ h => h) (Or.inl ⟨by rfl, ?_⟩) hHeld ?_
        rotate_left
        · (intro w9 hSw; (try dsimp only at hSw); obtain ⟨qq0, qq1⟩ := hSw; go_simp; try (with_reducible rfl))
        try simp only [Act.put, List.setIfInBounds_toArray, List.set_cons_zero, List.set_cons_succ]
        refine wpAnyH_take (i := 25) (oi := ⟨_, _, _, _, _, _⟩) (v := ?_) rfl (by kernel_rfl) (by kernel_rfl) (by kernel_rfl) (fun _ _ _ h => h) (Or.inl ⟨by rfl, ?_⟩) hHeld ?_
        rotate_left
        · (intro w9 hSw; (try dsimp only at hSw); obtain ⟨qq0, qq1⟩ := hSw; go_simp; try (with_reducible rfl))
        try simp only [Act.put, List.setIfInBounds_toArray, List.set_cons_zero, List.set_cons_succ]
        refine wpAnyH_take (i := 26) (oi := ⟨_, _, _, _, _, _⟩) (v := ?_) rfl (by kernel_rfl) (by kernel_rfl) (by kernel_rfl) (fun _ _ _ h => h) (Or.inl ⟨by rfl, ?_⟩) hHeld ?_
        rotate_left
        · (intro w9 hSw; (try dsimp only at hSw); obtain ⟨qq0, qq1⟩ := hSw; go_simp; try (with_reducible rfl))
        try simp only [Act.put, List.setIfInBounds_toArray, List.set_cons_zero, List.set_cons_succ]
        refine wpAnyH_take (i := 28) (oi := ⟨_, _, _, _, _, _⟩) (v := ?_) rfl (by kernel_rfl) (by kernel_rfl) (by kernel_rfl) (fun _ _ _ h => h) (Or.inl ⟨by rfl, ?_⟩) hHeld ?_
        rotate_left
        · (intro w9 hSw; (try dsimp only at hSw); obtain ⟨qq0, qq1⟩ := hSw; go_simp; try (with_reducible rfl))
        try simp only [Act.put, List.setIfInBounds_toArray, List.set_cons_zero, List.set_cons_succ]
        refine wpAnyH_take (i := 29) (oi := ⟨_, _, _, _, _, _⟩) (v := ?_) rfl (by kernel_rfl) (by kernel_rfl) (by kernel_rfl) (fun _ _ _ h => h) (Or.inl ⟨by rfl, ?_⟩) hHeld ?_
        rotate_left
        · (intro w9 hSw; (try dsimp only at hSw); obtain ⟨qq0, qq1⟩ := hSw; go_simp; try (with_reducible rfl))
        try simp only [Act.put, List.setIfInBounds_toArray, List.set_cons_zero, List.set_cons_succ]
        refine wpAnyH_take (i := 30) (oi := ⟨_, _, _, _, _, _⟩) (v := ?_) rfl (by kernel_rfl) (by kernel_rfl) (by kernel_rfl) (fun _ _ _ h => h) (Or.inl ⟨by rfl, ?_⟩) hHeld ?_
        rotate_left
        · (intro w9 hSw; (try dsimp only at hSw); obtain ⟨qq0, qq1⟩ := hSw; go_simp; try (with_reducible rfl))
        try simp only [Act.put, List.setIfInBounds_toArray, List.set_cons_zero, List.set_cons_succ]
        refine wpAnyH_ready (rs := [3]) (by kernel_rfl) (by simp) ?_
        refine AllReadyH.cons (o := ⟨_, _, _, _, _, _⟩) rfl (fun K hK => ?_) AllReadyH.nil
        go_simp
        go_at_call 25
        refine (hp0 _ B12.drew).mono ?_
        rintro e13 w13 ⟨rfl, hb13⟩
        dsimp only
        have B13 : Below H w w13 := (B12.drew).trans (hb13.mono (by have h := (B12.drew).size; have hq := AH.out.1; omega))
        have K13 : Cells w13 H #[.string M, .string S, .slice (some ⟨g, o, none⟩) L c] 24 := Cells.below K12.drew hb13 (K12.drew).lt
        have D13 := hSS _ B13 K13
        refine hK.out _ _ D13 (fun hH13 => ?_)
        clear hK K
        try simp only [Act.put, List.setIfInBounds_toArray, List.set_cons_zero, List.set_cons_succ]
        refine wpAnyH_take (i := 4) (oi := ⟨_, _, _, _, _, _⟩) (v := ?_) rfl (by kernel_rfl) (by kernel_rfl) (by kernel_rfl) (fun _ _ _ h => h) (Or.inl ⟨by rfl, ?_⟩) hH13 ?_
        rotate_left
        · (intro w9 hSw; (try dsimp only at hSw); obtain ⟨qq0, qq1⟩ := hSw; go_simp; try (with_reducible rfl))
        try simp only [Act.put, List.setIfInBounds_toArray, List.set_cons_zero, List.set_cons_succ]
        refine wpAnyH_ready (rs := [12]) (by kernel_rfl) (by simp) ?_
        refine AllReadyH.cons (o := ⟨_, _, _, _, _, _⟩) rfl (fun K hK => ?_) AllReadyH.nil
        go_simp
        go_at_call 24
        refine (hmf _ B13).mono ?_
        rintro e14 w14 ⟨rfl, hb14⟩
        dsimp only
        have B14 : Below H w w14 := (B13).trans (hb14.mono (by have h := (B13).size; have hq := AH.out.1; omega))
        have K14 : Cells w14 H #[.string M, .string S, .slice (some ⟨g, o, none⟩) L c] 24 := Cells.below K13 hb14 (K13).lt
        have D14 := hSS _ B14 K14
        refine hK.out _ _ D14 (fun hH14 => ?_)
        clear hK K
        try simp only [Act.put, List.setIfInBounds_toArray, List.set_cons_zero, List.set_cons_succ]
        refine wpAnyH_take (i := 13) (oi := ⟨_, _, _, _, _, _⟩) (v := ?_) rfl (by kernel_rfl) (by kernel_rfl) (by kernel_rfl) (fun _ _ _ h => h) (Or.inl ⟨by rfl, ?_⟩) hH14 ?_
        rotate_left
        · (intro w9 hSw; (try dsimp only at hSw); obtain ⟨qq0, qq1⟩ := hSw; go_simp; try (with_reducible rfl))
        try simp only [Act.put, List.setIfInBounds_toArray, List.set_cons_zero, List.set_cons_succ]
        refine wpAnyH_ready (rs := [17]) (by kernel_rfl) (by simp) ?_
        refine AllReadyH.cons (o := ⟨_, _, _, _, _, _⟩) rfl (fun K hK => ?_) AllReadyH.nil
        go_simp
        go_at_call 25
        rw [ew.out.1]
        refine (hp1 _ B14).mono ?_
        rintro e15 w15 ⟨rfl, hb15⟩
        dsimp only
        have B15 : Below H w w15 := (B14).trans (hb15.mono (by have h := (B14).size; have hq := AH.out.1; omega))
        have K15 : Cells w15 H #[.string M, .string S, .slice (some ⟨g, o, none⟩) L c] 24 := Cells.below K14 hb15 (K14).lt
        have D15 := hSS _ B15 K15
        refine hK.out _ _ D15 (fun hH15 => ?_)
        clear hK K
        try simp only [Act.put, List.setIfInBounds_toArray, List.set_cons_zero, List.set_cons_succ]
        refine wpAnyH_take (i := 18) (oi := ⟨_, _, _, _, _, _⟩) (v := ?_) rfl (by kernel_rfl) (by kernel_rfl) (by kernel_rfl) (fun _ _ _ h => h) (Or.inl ⟨by rfl, ?_⟩) hH15 ?_
        rotate_left
        · (intro w9 hSw; (try dsimp only at hSw); obtain ⟨qq0, qq1⟩ := hSw; go_simp; try (with_reducible rfl))
        try simp only [Act.put, List.setIfInBounds_toArray, List.set_cons_zero, List.set_cons_succ]
        refine wpAnyH_take (i := 19) (oi := ⟨_, _, _, _, _, _⟩) (v := ?_) rfl (by kernel_rfl) (by kernel_rfl) (by kernel_rfl) (fun _ _ _ h => h) (Or.inl ⟨by rfl, ?_⟩) hH15 ?_
        rotate_left
        · (intro w9 hSw; (try dsimp only at hSw); obtain ⟨qq0, qq1⟩ := hSw; go_simp; try (with_reducible rfl))
        try simp only [Act.put, List.setIfInBounds_toArray, List.set_cons_zero, List.set_cons_succ]
        refine wpAnyH_ready (rs := [23]) (by kernel_rfl) (by simp) ?_
        refine AllReadyH.cons (o := ⟨_, _, _, _, _, _⟩) rfl (fun K hK => ?_) AllReadyH.nil
        go_simp
        go_at_call 25
        rw [ew.out.2.1]
        refine (hp2 _ B15).mono ?_
        rintro e16 w16 ⟨rfl, hb16⟩
        dsimp only
        have B16 : Below H w w16 := (B15).trans (hb16.mono (by have h := (B15).size; have hq := AH.out.1; omega))
        have K16 : Cells w16 H #[.string M, .string S, .slice (some ⟨g, o, none⟩) L c] 24 := Cells.below K15 hb16 (K15).lt
        have D16 := hSS _ B16 K16
        refine hK.out _ _ D16 (fun hH16 => ?_)
        clear hK K
        try simp only [Act.put, List.setIfInBounds_toArray, List.set_cons_zero, List.set_cons_succ]
        refine wpAnyH_take (i := 24) (oi := ⟨_, _, _, _, _, _⟩) (v := ?_) rfl (by kernel_rfl) (by kernel_rfl) (by kernel_rfl) (fun _ _ _ h => h) (Or.inl ⟨by rfl, ?_⟩) hH16 ?_
        rotate_left
        · (intro w9 hSw; (try dsimp only at hSw); obtain ⟨qq0, qq1⟩ := hSw; go_simp; try (with_reducible rfl))
        try simp only [Act.put, List.setIfInBounds_toArray, List.set_cons_zero, List.set_cons_succ]
        refine wpAnyH_take (i := 27) (oi := ⟨_, _, _, _, _, _⟩) (v := ?_) rfl (by kernel_rfl) (by kernel_rfl) (by kernel_rfl) (fun _ _ _ h => h) (Or.inl ⟨by rfl, ?_⟩) hH16 ?_
        rotate_left
        · (intro w9 hSw; (try dsimp only at hSw); obtain ⟨qq0, qq1⟩ := hSw; go_simp; try (with_reducible rfl))
        try simp only [Act.put, List.setIfInBounds_toArray, List.set_cons_zero, List.set_cons_succ]
        refine wpAnyH_ready (rs := [31]) (by kernel_rfl) (by simp) ?_
        refine AllReadyH.cons (o := ⟨_, _, _, _, _, _⟩) rfl (fun K hK => ?_) AllReadyH.nil
        go_simp
        go_at_call 25
        rw [ew.out.2.2]
        refine (hp3 _ B16).mono ?_
        rintro e17 w17 ⟨rfl, hb17⟩
        dsimp only
        have B17 : Below H w w17 := (B16).trans (hb17.mono (by have h := (B16).size; have hq := AH.out.1; omega))
        have K17 : Cells w17 H #[.string M, .string S, .slice (some ⟨g, o, none⟩) L c] 24 := Cells.below K16 hb17 (K16).lt
        have D17 := hSS _ B17 K17
        refine hK.out _ _ D17 (fun hH17 => ?_)
        clear hK K
        try simp only [Act.put, List.setIfInBounds_toArray, List.set_cons_zero, List.set_cons_succ]
        refine wpAnyH_take (i := 32) (oi := ⟨_, _, _, _, _, _⟩) (v := ?_) rfl (by kernel_rfl) (by kernel_rfl) (by kernel_rfl) (fun _ _ _ h => h) (Or.inl ⟨by rfl, ?_⟩) hH17 ?_
        rotate_left
        · (intro w9 hSw; (try dsimp only at hSw); obtain ⟨qq0, qq1⟩ := hSw; go_simp; try (with_reducible rfl))
        try simp only [Act.put, List.setIfInBounds_toArray, List.set_cons_zero, List.set_cons_succ]
        refine wpAnyH_take (i := 33) (oi := ⟨_, _, _, _, _, _⟩) (v := ?_) rfl (by kernel_rfl) (by kernel_rfl) (by kernel_rfl) (fun _ _ _ h => h) (Or.inl ⟨by rfl, ?_⟩) hH17 ?_
        rotate_left
        · (intro w9 hSw; (try dsimp only at hSw); obtain ⟨qq0, qq1⟩ := hSw; go_simp; try (with_reducible rfl))
        try simp only [Act.put, List.setIfInBounds_toArray, List.set_cons_zero, List.set_cons_succ]
        refine wpAnyH_ready (rs := [34]) (by kernel_rfl) (by simp) ?_
        refine AllReadyH.cons (o := ⟨_, _, _, _, _, _⟩) rfl (fun K hK => ?_) AllReadyH.nil
        go_simp
        refine hK.out _ _ D17 (fun hH18 => ?_)
        clear hK K
        try simp only [Act.put, List.setIfInBounds_toArray, List.set_cons_zero, List.set_cons_succ]
        refine wpAnyH_done (by kernel_rfl) ?_ _
        (try dsimp only [Exit.then])
        have R2 : Aside (Below H w w17 ∧ Cells w17 H #[.string M, .string S, .slice (some ⟨g, o, none⟩) L c] 24) := ⟨B17, K17⟩
        clear hHeld hH13 hH14 hH15 hH16 hH17 hH18 DD hb13 hb14 hb15 hb16 hb17 B12 B13 B14 B15 B16 B17 K12 K13 K14 K15 K16 K17 hSS hp0 hp1 hp2 hp3 hmf
        go_wp2_with fail
        obtain ⟨r1, r2, r3, _⟩ := R.out
        go_roundg (gk - 1)
        case measure => omega
        case rel => exact ⟨k + 1, D8, rfl, by go_num, by omega, r3, R2.out.2, R2.out.1⟩
      · have hki : ((k : Int) < (L : Int)) = False := eq_false (by omega)
        have hkn : (k < L) = False := eq_false hk
        have hkL : k = L := by omega
        rw [hkL, hXF] at hX
        subst hX
        have R : Aside (Cells wr H #[.string M, .string S, .slice a L c] 24 ∧ Below H w wr ∧ H ≤ wr.heap.size) := ⟨kH, bel, Nat.le_of_lt kH.lt⟩
        clear hI hkg kH bel hH hv hT hTL hb hwt hLb hXF hk hkL hput hmx
        go_upto_region 14 with (go_at_call 9; (with_reducible refine (hty _).mono ?_); rintro e12 w12 ⟨va, n, c3, rfl, how, hb12⟩)
        have B12 : Below H w w12 := R.out.2.1.trans (hb12.mono R.out.2.2)
        have K12 : Cells w12 H #[.string M, .string S, .slice a L c] 24 := R.out.1.below hb12 R.out.1.lt
        obtain ⟨K, hK⟩ : ∃ K, w12.heap.size = K := ⟨_, rfl⟩
        obtain ⟨w13, hw13⟩ : ∃ w13, w13 = w12.alloc (.cells #[.string M, .string S, .slice va n c3] 24) := ⟨_, rfl⟩
        have b13 : Below w12.heap.size w12 w13 := by rw [hw13]; exact (Below.refl _ w12).alloc (Nat.le_refl _) _
        have k13 : Cells w13 K #[.string M, .string S, .slice va n c3] 24 := by rw [hw13, ← hK]; exact Cells.new w12 _ 24
        have B13 : Below H w w13 := B12.trans (b13.mono (Nat.le_of_lt K12.lt))
        have K13 : Cells w13 H #[.string M, .string S, .slice a L c] 24 := K12.below b13 K12.lt
        obtain ⟨v0, v1, v2⟩ := hq w13 K13
        have z0 : w13.cell? ⟨K, 0, none⟩ = some (.string M) := by rw [k13.cell]; rfl
        have z1 : w13.cell? ⟨K, 1, none⟩ = some (.string S) := by rw [k13.cell]; rfl
        have z2 : w13.cell? ⟨K, 2, none⟩ = some (.slice va n c3) := by rw [k13.cell]; rfl
        replace hfq := hfq w13 va n c3 (how.fl.below b13) B13
        (try simp only [hK])
        rw [← hw13]
        have A13 : Aside (Below H w w13 ∧ H ≤ w13.heap.size) := ⟨B13, Nat.le_of_lt K13.lt⟩
        clear hw13 hK b13 k13 B12 B13 K12 K13 hb12 how hty c2' hq
        go_wp2_with (first
          | (go_at_call 21; (with_reducible refine hfq.mono ?_); rintro e14 w14 ⟨rfl, hb14⟩)
          | (go_at_call 16; (with_reducible refine (hawk _).mono ?_); rintro e15 w15 ⟨rfl, hb15⟩))
        first | go_ret | go_ret2
        obtain ⟨aB, aS⟩ := A13.out
        have s14 := hb14.size
        exact ⟨rfl, (aB.trans (hb14.mono aS)).trans (hb15.mono (by omega))⟩
end Go.Proofs.Ytdndlegfalmkaaa

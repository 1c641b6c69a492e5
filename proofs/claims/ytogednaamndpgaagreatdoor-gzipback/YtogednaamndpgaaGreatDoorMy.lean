/-
  Own texts of this seat, one behind the other: what each says stands ahead of it.
-/
import Derived.Test.YtogednaamndpgaaGreatDoorMm
import Derived.Test.YtogednaamndpgaaGreatDoorMn
import Derived.Test.YtogednaamndpgaaGreatDoorMw
import Derived.Test.YtogednaamndpgaaGreatDoorMk
import Derived.Lib.AppendStr
/-
 Members as they are written, one behind the other: how the machine runs over them. No walk.
-/
namespace Go.Proofs.YtogednaamndpgaaGreatDoor
open Go.RowKit
set_option linter.unusedVariables false
def evd (n d : List Nat) : List Evn := (256, n) :: d.map fun x => (x, [])
def sndl (T : List Gev) : List Evn := T.map fun e => e.2
theorem sndl_append (T U : List Gev) : sndl (T ++ U) = sndl T ++ sndl U := by simp [sndl]
section
variable {b X Nn S n z d t1 t2 rest : List Nat} {fl : Nat} {r : Gr}
structure Gw (b n d t1 t2 : List Nat) (len : Nat) (r : Gr) (c : Cfg) : Prop where
 st : (ghead b r).1.why = 0 → Stands (b.drop (ghead b r).1.pos) (ghead b r).1.left c
 lf : (ghead b r).1.left = r.left
 ev : sndl (gmemb b r c).ev = sndl r.ev ++ evd n d ++ (if le t1 = sm 0 d ∧ le t2 = d.length % 4294967296 then [(257, [])] else [])
 why : (gmemb b r c).why = (if le t1 = sm 0 d then (if le t2 = d.length % 4294967296 then 0 else 45) else 44)
 pos : (gmemb b r c).why = 0 → (gmemb b r c).pos = r.pos + len
 left : (gmemb b r c).left = r.left - d.length
theorem gmemb_go (hw : Hw fl X Nn S n) (h0 : r.why = 0) (hp : r.pos ≤ b.length) (h : b.drop r.pos = (hten fl ++ X ++ Nn ++ S) ++ (z ++ (t1 ++ (t2 ++ rest)))) (hz : Holds r.left z d) (h1 : t1.length = 4) (h2 : t2.length = 4) : ∃ c, Gw b n d t1 t2 ((hten fl ++ X ++ Nn ++ S).length + z.length + 8) r c := by
 obtain ⟨H, hH⟩ : ∃ H, hten fl ++ X ++ Nn ++ S = H := ⟨_, rfl⟩
 have hg := ghead_go hw h0 hp h
 rw [hH] at hg h ⊢
 have dh := ah_next h
 have ph := ah_len h hp
 have dz := ah_next dh
 have pz := ah_len dh ph
 have d1 := ah_next dz
 have p1 := ah_len dz pz
 have p2 := ah_len d1 p1
 rw [h1] at d1 p1 p2
 rw [h2] at p2
 obtain ⟨c, q1, q2, q3, q4, q5⟩ := hz.stands (t1 ++ (t2 ++ rest))
 have hend := done_c3 q2
 have hat : atC (b.length - (r.pos + H.length)) c + 1 = z.length := by
  unfold atC
  rw [q2]
  exact q4
 have htl := q1.tl
 refine ⟨c, ?_, ?_, ?_, ?_, ?_, ?_⟩
 ·intro _
  rw [hg, dh]
  exact q1
 ·rw [hg]
 all_goals
  unfold gmemb
  rw [hg, if_pos h0, if_pos hend.1]
  unfold mrest mdata
  simp only
  rw [Nat.add_assoc (r.pos + H.length), hat]
  obtain ⟨r1, hr1⟩ : ∃ r1 : Gr, r1 = { r with ev := r.ev ++ [(r.pos + H.length - 1, 256, n)] ++ gtells (r.pos + H.length) c, left := r.left - c.out.length, pos := r.pos + H.length + z.length } := ⟨_, rfl⟩
  have f0 : r1.why = 0 := by rw [hr1]; exact h0
  have fp : r1.pos = r.pos + H.length + z.length := by rw [hr1]
  have fe : sndl r1.ev = sndl r.ev ++ evd n d := by
   rw [hr1]
   show sndl (r.ev ++ [(r.pos + H.length - 1, 256, n)] ++ gtells (r.pos + H.length) c) = _
   rw [sndl_append, sndl_append]
   have : sndl (gtells (r.pos + H.length) c) = c.out.map fun x => (x, []) := tells_snd _ _ htl
   rw [this, q3]
   simp [sndl, evd]
  have fl' : r1.left = r.left - d.length := by rw [hr1, ← q3]
  rw [← hr1]
  have m1 := mtail_at (b := b) (z := c) (r := r1) (by rw [fp]; exact p1) f0
  have v1 : le4 b r1.pos = le t1 := by
   unfold le4
   rw [fp, dz, ← h1, List.take_left]
  rw [v1, q3] at m1
  by_cases c1 : le t1 = sm 0 d
  ·rw [if_pos c1] at m1
   have m2 := msize_at (b := b) (z := c) (r := { r1 with pos := r1.pos + 4 }) (by show r1.pos + 4 + 4 ≤ _; rw [fp]; exact p2) f0
   have v2 : le4 b (r1.pos + 4) = le t2 := by
    unfold le4
    rw [fp, d1, ← h2, List.take_left]
   have v2' : le4 b ({ r1 with pos := r1.pos + 4 } : Gr).pos = le t2 := v2
   rw [v2', q3] at m2
   rw [m1, if_pos f0, m2]
   by_cases c2 : le t2 = d.length % 4294967296
   ·rw [if_pos c2]
    unfold mclose
    rw [if_pos f0]
    first
     | (rw [if_pos ⟨c1, c2⟩]; show sndl (r1.ev ++ _) = _; rw [sndl_append, fe]; rfl)
     | (rw [if_pos c1, if_pos c2]; exact f0)
     | (intro _; show r1.pos + 4 + 4 = _; rw [fp]; omega)
     | exact fl'
   ·rw [if_neg c2]
    unfold mclose
    rw [if_neg (by simp [gstop])]
    first
     | (rw [if_neg (fun q => c2 q.2)]; show sndl r1.ev = _; rw [fe, List.append_nil])
     | (rw [if_pos c1, if_neg c2]; rfl)
     | (intro q; simp [gstop] at q)
     | exact fl'
  ·rw [if_neg c1] at m1
   rw [m1, if_neg (by simp [gstop])]
   first
    | (rw [if_neg (fun q => c1 q.1)]; show sndl r1.ev = _; rw [fe, List.append_nil])
    | (rw [if_neg c1]; rfl)
    | (intro q; simp [gstop] at q)
    | exact fl'
end
structure Wm where
 fl : Nat
 X : List Nat
 Nn : List Nat
 S : List Nat
 n : List Nat
 z : List Nat
 d : List Nat
def Wm.head (m : Wm) : List Nat := hten m.fl ++ m.X ++ m.Nn ++ m.S
def Wm.bytes (m : Wm) : List Nat := m.head ++ (m.z ++ (nbs 4 (sm 0 m.d) ++ nbs 4 m.d.length))
structure Wm.Ok (K : Nat) (m : Wm) : Prop where
 hw : Hw m.fl m.X m.Nn m.S m.n
 hz : Holds K m.z m.d
 oc : Oct m.d
def wal (l : List Wm) : List Nat := l.flatMap Wm.bytes
def wel (l : List Wm) : List Evn := l.flatMap fun m => evd m.n m.d ++ [(257, [])]
def wdl : List Wm → Nat
 | [] => 0
 | m :: l => m.d.length + wdl l
theorem wm_31 (m : Wm) (t : List Nat) : ∃ u, m.bytes ++ t = 31 :: u := ⟨_, rfl⟩
theorem wm_len (m : Wm) : m.bytes.length = m.head.length + m.z.length + 8 := by unfold Wm.bytes; simp [nbs_length]; omega
theorem Sp0.lf {b : List Nat} {r : Gr} {s : Gs} (h : Sp0 b r s) (K : Nat) : Sp0 b { r with left := K } s := ⟨h.why, h.rch, h.sw, h.nx, h.nm, h.nb⟩
theorem member_run {b rest : List Nat} {r : Gr} {s : Gs} {K : Nat} {m : Wm} (ho : Oct b) (h : Sp0 b r s) (hm : m.Ok K) (hMM : K < MM) (hsl : sm 0 m.d < 4294967296) (hb : b.drop r.pos = m.bytes ++ rest) : ∃ r' s', Sb b r' s' ∧ r'.pos = r.pos + m.bytes.length ∧ sndl r'.ev = sndl r.ev ++ (evd m.n m.d ++ [(257, [])]) := by
 have hp := h.rch.1
 unfold Wm.bytes Wm.head at hb
 simp only [List.append_assoc] at hb
 obtain ⟨c, g⟩ := gmemb_go (b := b) (rest := rest) (r := { r with left := K }) (t1 := nbs 4 (sm 0 m.d)) (t2 := nbs 4 m.d.length) hm.hw h.why hp (by rw [show ({ r with left := K } : Gr).pos = r.pos from rfl, hb]; simp only [List.append_assoc]) hm.hz (nbs_length 4 _) (nbs_length 4 _)
 have e1 : le (nbs 4 (sm 0 m.d)) = sm 0 m.d := by rw [le_num4]; exact Nat.mod_eq_of_lt hsl
 have e2 : le (nbs 4 m.d.length) = m.d.length % 4294967296 := le_num4 _
 have gw := g.why
 have ge := g.ev
 rw [if_pos e1, if_pos e2] at gw
 rw [if_pos ⟨e1, e2⟩] at ge
 rcases memb_ok ho (h.lf K) g.st (by rw [g.lf]; exact hMM) with ⟨s1, q⟩ | q | q
 ·refine ⟨_, s1, q, ?_, by rw [ge, List.append_assoc]⟩
  rw [g.pos gw, wm_len]
  rfl
 ·exact absurd gw q.1
 ·rw [q.1] at gw; cases gw
theorem members_run {b : List Nat} {K : Nat} (ho : Oct b) (hMM : K < MM) (hsl : ∀ d : List Nat, Oct d → sm 0 d < 4294967296) : ∀ (l : List Wm) (rest : List Nat) (r : Gr) (s : Gs), l ≠ [] → Sp0 b r s → (∀ m ∈ l, m.Ok K) → b.drop r.pos = wal l ++ rest → ∃ r' s', Sb b r' s' ∧ r'.pos = r.pos + (wal l).length ∧ sndl r'.ev = sndl r.ev ++ wel l
 | [], rest, r, s, hne, _, _, _ => absurd rfl hne
 | m :: l, rest, r, s, _, h, hm, hb => by
  have e : wal (m :: l) = m.bytes ++ wal l := by simp [wal]
  rw [e, List.append_assoc] at hb
  obtain ⟨r1, s1, q1, q2, q3⟩ := member_run ho h (hm m (List.mem_cons_self ..)) hMM (hsl _ (hm m (List.mem_cons_self ..)).oc) hb
  cases l with
  | nil =>
   refine ⟨r1, s1, q1, ?_, ?_⟩
   ·rw [q2]; simp [wal]
   ·rw [q3]; simp [wel]
  | cons m2 l =>
   have hb2 := ah_next hb
   rw [← q2] at hb2
   have h31 : b[r1.pos]? = some 31 := by
    have e2 : wal (m2 :: l) ++ rest = m2.bytes ++ (wal l ++ rest) := by simp [wal]
    rw [e2] at hb2
    obtain ⟨u, hu⟩ := wm_31 m2 (wal l ++ rest)
    rw [hu] at hb2
    exact ah_at hb2
   obtain ⟨r2, s2, t1, t2, t3⟩ := members_run ho hMM hsl (m2 :: l) rest r1 s1 (by simp) ⟨q1.why, q1.rch, q1.sw, Or.inr ⟨q1.nx, h31⟩, q1.nm, q1.nb⟩ (fun x hx => hm x (List.mem_cons_of_mem _ hx)) hb2
   refine ⟨r2, s2, t1, ?_, ?_⟩
   ·rw [t2, q2, e, List.length_append]; omega
   ·rw [t3, q3, List.append_assoc]; simp [wel]
theorem cds_sndl (T : List Gev) : cds T = (sndl T).map Prod.fst := by simp [cds, sndl]
theorem po_evd (ls : List (List Nat)) (n d : List Nat) (ho : Oct d) (u : List Nat) : po ls ((evd n d).map Prod.fst ++ u) = po (ls ++ [d]) u := by
 have key : ∀ (d : List Nat) (ls : List (List Nat)) (c : List Nat), Oct d → po (ls ++ [c]) ((d.map fun x => ((x, []) : Evn)).map Prod.fst ++ u) = po (ls ++ [c ++ d]) u := by
  intro d
  induction d with
  | nil => intro ls c _; simp
  | cons x d ih =>
   intro ls c ho
   have hx := ho x (List.mem_cons_self ..)
   simp only [List.map_cons, List.cons_append, po]
   rw [if_neg (by omega), if_neg (by omega)]
   have e : (ls ++ [c]).dropLast ++ [(ls ++ [c]).getLastD [] ++ [x]] = ls ++ [c ++ [x]] := by simp
   rw [e, ih ls (c ++ [x]) (fun y hy => ho y (List.mem_cons_of_mem _ hy))]
   simp
 unfold evd
 simp only [List.map_cons, List.cons_append, po]
 rw [if_pos trivial, key d ls [] ho]
 simp
theorem po_wel : ∀ (l : List Wm) (ls : List (List Nat)) (u : List Nat), (∀ m ∈ l, Oct m.d) → po ls ((wel l).map Prod.fst ++ u) = po (ls ++ l.map Wm.d) u
 | [], ls, u, _ => by simp [wel]
 | m :: l, ls, u, ho => by
  have e : (wel (m :: l)).map Prod.fst ++ u = (evd m.n m.d).map Prod.fst ++ (257 :: ((wel l).map Prod.fst ++ u)) := by simp [wel]
  rw [e, po_evd _ _ _ (ho m (List.mem_cons_self ..))]
  have : po (ls ++ [m.d]) (257 :: ((wel l).map Prod.fst ++ u)) = po (ls ++ [m.d]) ((wel l).map Prod.fst ++ u) := by simp [po]
  rw [this, po_wel l _ u (fun x hx => ho x (List.mem_cons_of_mem _ hx))]
  simp
theorem nbe_wel : ∀ (l : List Wm), (∀ m ∈ l, Oct m.d) → nbe ((wel l).map Prod.fst) = wdl l
 | [], _ => rfl
 | m :: l, ho => by
  have e : (wel (m :: l)).map Prod.fst = 256 :: m.d ++ (257 :: (wel l).map Prod.fst) := by simp [wel, evd, Function.comp_def]
  have := (oct_counts m.d (ho m (List.mem_cons_self ..))).2
  rw [e, nbe_append]
  simp only [nbe, wdl]
  rw [nbe_wel l (fun x hx => ho x (List.mem_cons_of_mem _ hx)), this]
  simp
end Go.Proofs.YtogednaamndpgaaGreatDoor

/-
 A string's bytes behind an own list of bytes.
-/
namespace Go.Proofs.YtogednaamndpgaaGreatDoor
open Go.RowKit
set_option linter.unusedVariables false
theorem strCells_st {m : List Nat} (hm : Oct m) : Lib.strCells (st m) = ob m := by
 unfold Lib.strCells ob
 have e : (st m).data.toList = m.map UInt8.ofNat := rfl
 rw [e, List.map_map]
 refine List.map_congr_left fun x hx => ?_
 have := hm x hx
 simp
 omega
theorem own_string (P : Program) (w : World) (t u ty : TypeId) (i : TypeInfo) (ht : P.underlying t = some (.slice 5)) (hu : P.underlying u = some .string) (hi : P.info? 5 = some i) (hz0 : i.zero = some (.int .u8 0)) (hz1 : i.size = 1) (hz2 : i.bytes = 1)
  (lo : Nat) (v : Value) (n : Nat) (l : List Nat) (hown : Ow w lo 5 1 v n (ob l)) (m : List Nat) (M : Nat) (s : ByteArray) (hs : s = st m) (hM : m.length = M) (hm : Oct m) (hlen : n + M ≤ 140737488355328) :
  ∃ va c w', (Builtin.append_ #[t, u] ty #[v, .string s]).run P w = .ok (.slice va (n + M) c) w' ∧ Got lo 5 1 w w' v (.slice va (n + M) c) (n + M) (ob (l ++ m)) := by
 subst hs
 subst hM
 obtain ⟨v', w', hr, h2, h3, h4⟩ := Lib.run_append_own_string (P := P) w lo t u ty 5 i ht hu hi hz0 hz1 hz2 v n _ hown.own (st m) (by rw [st_size]; unfold maxLen; omega) (by rw [st_size]; omega) hown.le
 rw [st_size, strCells_st hm] at h2
 have hg := Got.mk' hown h2 h3
 rw [ob_append] at hg
 obtain ⟨a', c', hv, _⟩ := hg.ow.shape
 subst hv
 exact ⟨a', c', w', hr, hg⟩
section
variable (P : Program) (w : World) {o : Oper} {a : Act}
theorem wpList_ows {ops : Array Oper} {rest : List Oper} {Q : Exit → Act → World → Prop} (hgd : o.guard = none) (s x : Operand) (t u : TypeId)
  (ho : o.op = .call { callee := .builtin .append, args := #[s, x], argTypes := #[t, u] }) (i : TypeInfo) (ht : P.underlying t = some (.slice 5)) (hu : P.underlying u = some .string) (hi : P.info? 5 = some i) (hz0 : i.zero = some (.int .u8 0)) (hz1 : i.size = 1) (hz2 : i.bytes = 1)
  (lo : Nat) (v : Value) (n : Nat) (l : List Nat) (hs : a.eval s = v) (hown : Ow w lo 5 1 v n (ob l)) (m : List Nat) (M : Nat) (S : ByteArray) (hS : S = st m) (hM : m.length = M) (hm : Oct m) (hx : a.eval x = .string S) (hlen : n + M ≤ 140737488355328)
  (h : ∀ va c w', Got lo 5 1 w w' v (.slice va (n + M) c) (n + M) (ob (l ++ m)) → wpList P ops Q rest (a.put o.dst (.slice va (n + M) c)) w') : wpList P ops Q (o :: rest) a w := by
 obtain ⟨va, c, w', hr, hg⟩ := own_string P w t u o.type i ht hu hi hz0 hz1 hz2 lo v n l hown m M S hS hM hm hlen
 refine wpList_plain hgd fun K hK => ?_
 unfold Oper.wp execOp
 simp only [ho, resolve, invoke, builtin, Sem.run_bind, Sem.run_pure, Result.andThen_ok, List.map_toArray, List.map_cons, List.map_nil, hs, hx, hr]
 exact hK _ _ (h va c w' hg)
theorem step_ows {ops : Array Oper} {K : Act → World → Prop} {Q : Exit → Act → World → Prop} {E : Prop} (hgd : o.guard = none) (s x : Operand) (t : TypeId)
  (ho : o.op = .call { callee := .builtin .append, args := #[s, x], argTypes := #[t, t] }) (e : TypeId) (i : TypeInfo) (z : Value) (sz bytes : Nat) (ht : P.underlying t = some (.slice e)) (hi : P.info? e = some i) (hz0 : i.zero = some z) (hz1 : i.size = sz) (hz2 : i.bytes = bytes) (hz3 : z.cells.size = sz) (hsz : 0 < sz)
  (lo : Nat) (v : Value) (k : Nat) (l : List Value) (hs : a.eval s = v) (hown : Ow w lo e sz v k l)
  (ax : Option Addr) (m : List Value) (n c : Nat) (hnm : m.length = n * sz) (hx : a.eval x = .slice ax n c) (hz : ax = none → n = 0 ∧ c = 0) (hl : m = [] ∨ ∃ b o, ax = some ⟨b, o, none⟩ ∧ ∀ i u, m[i]? = some u → w.cell? ⟨b, o + i, none⟩ = some u) (h1 : ∀ u ∈ m, u.oneCell' = true) (h63 : k + n ≤ maxLen) (hlen : (k + n) * bytes ≤ 140737488355328)
  (h : ∀ va c' w', Got lo e sz w w' v (.slice va (k + n) c') (k + n) (l ++ m) → K (a.put o.dst (.slice va (k + n) c')) w') : if Region.wanted o (yielded ops a.tmps) = true then Oper.wp P o a w K Q else E := by
 have hw : Region.wanted o (yielded ops a.tmps) = true := by simp [Region.wanted, hgd]
 rw [if_pos hw]
 have h' : ∀ v' w', Got lo e sz w w' v v' (k + n) (l ++ m) → K (a.put o.dst v') w' := fun v' w' hg => by
  obtain ⟨a', c', hv, _⟩ := hg.ow.shape
  subst hv
  exact h a' c' w' hg
 cases ax with
 | none =>
  obtain ⟨h1, h2⟩ := hz rfl
  subst h1
  have hm : m = [] := List.eq_nil_of_length_eq_zero (by omega)
  subst hm
  subst h2
  have hrun := run_append_owned_none (P := P) (w := w) lo t o.type e i sz ht hi v _ _ hown.own
  unfold Oper.wp
  simp [execOp, ho, resolve, invoke, builtin, hs, hx, hrun, Result.andThen]
  refine h' v w ?_
  rw [List.append_nil]
  exact ⟨hown, Below.refl _ _, fun _ _ _ => rfl, fun k _ => Or.inl rfl⟩
 | some ad =>
  obtain ⟨v', w', hrun, r1, r2, _⟩ := run_append_own (P := P) w lo t o.type e i z sz bytes ht hi hz0 hz1 hz2 hz3 hsz v _ _ hown.own ad n c m hnm (fun j u hj => by
   rcases hl with rfl | ⟨b, off, ha, hc⟩
   ·simp at hj
   ·cases ha
    rw [addr_add]
    exact hc j u hj) h1 h63 hlen hown.le
  unfold Oper.wp
  simp [execOp, ho, resolve, invoke, builtin, hs, hx, hrun, Result.andThen]
  exact h' v' w' (Got.mk' hown r1 r2)
end
end Go.Proofs.YtogednaamndpgaaGreatDoor

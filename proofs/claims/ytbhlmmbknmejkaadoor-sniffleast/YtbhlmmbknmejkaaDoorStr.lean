/-
  Strings as lists of bytes. No walk.
-/
import Derived.Test.YtbhlmmbknmejkaaDoorMem
import Derived.Test.YtbhlmmbknmejkaaDoorMem
namespace Go.Proofs.YtbhlmmbknmejkaaDoor
set_option linter.unusedVariables false
/-- Bytes. -/
def Oct (l : List Nat) : Prop := ∀ x ∈ l, x < 256
theorem Oct.drop {l : List Nat} (h : Oct l) (k : Nat) : Oct (l.drop k) := fun x hx => h x (List.mem_of_mem_drop hx)
theorem Oct.take {l : List Nat} (h : Oct l) (k : Nat) : Oct (l.take k) := fun x hx => h x (List.mem_of_mem_take hx)
theorem Oct.nil : Oct [] := by simp [Oct]
theorem Oct.append {l m : List Nat} (h : Oct l) (k : Oct m) : Oct (l ++ m) := by
  intro x hx
  rcases List.mem_append.1 hx with e | e
  · exact h x e
  · exact k x e
theorem Oct.left {l m : List Nat} (h : Oct (l ++ m)) : Oct l := fun x hx => h x (List.mem_append.2 (Or.inl hx))
theorem Oct.right {l m : List Nat} (h : Oct (l ++ m)) : Oct m := fun x hx => h x (List.mem_append.2 (Or.inr hx))
/-- A string's bytes; bytes as a string. -/
def bl (s : ByteArray) : List Nat := s.data.toList.map UInt8.toNat
def st (l : List Nat) : ByteArray := ⟨(l.map UInt8.ofNat).toArray⟩
theorem bl_length (s : ByteArray) : (bl s).length = s.size := by simp [bl]
theorem st_size (l : List Nat) : (st l).size = l.length := by show (List.toArray _).size = _; simp
theorem st_bl (s : ByteArray) : st (bl s) = s := by
  cases s with
  | mk d => simp [st, bl, Function.comp_def]
theorem bl_st {l : List Nat} (h : Oct l) : bl (st l) = l := by
  simp only [bl, st]
  rw [List.map_map]
  conv => rhs; rw [← List.map_id l]
  refine List.map_congr_left fun x hx => ?_
  have := h x hx
  simp; omega
theorem bl_oct (s : ByteArray) : Oct (bl s) := by
  intro x hx
  obtain ⟨y, _, rfl⟩ := List.mem_map.1 hx
  exact y.toNat_lt
theorem bl_get {s : ByteArray} {k : Nat} (h : k < s.size) : (bl s)[k]? = some (s[k]'h).toNat := by
  have h' : k < s.data.size := h
  unfold bl
  rw [List.getElem?_map, Array.getElem?_toList, Array.getElem?_eq_getElem h']
  rfl
theorem st_get {l : List Nat} {k x : Nat} (ho : Oct l) (hx : l[k]? = some x) (h : k < (st l).size) : ((st l)[k]'h).toNat = x := by
  have e := bl_get h
  rw [bl_st ho, hx] at e
  injection e with e
  exact e.symm
theorem bl_extract (s : ByteArray) (a b : Nat) : bl (s.extract a b) = ((bl s).take b).drop a := by
  simp [bl, ByteArray.data_extract, List.map_drop, List.map_take, List.drop_take]
theorem st_extract (l : List Nat) (a b : Nat) : (st l).extract a b = st ((l.take b).drop a) := by
  rw [ByteArray.ext_iff]
  simp [st, ByteArray.data_extract, List.drop_take]
theorem st_append (l m : List Nat) : st l ++ st m = st (l ++ m) := by
  rw [ByteArray.ext_iff]
  simp [st, ByteArray.data_append]
theorem st_inj {l m : List Nat} (hl : Oct l) (hm : Oct m) (h : st l = st m) : l = m := by rw [← bl_st hl, h, bl_st hm]
theorem st_beq {l m : List Nat} (hl : Oct l) (hm : Oct m) : ((st l).toList == (st m).toList) = decide (l = m) := by
  rw [ByteArray.toList_eq, ByteArray.toList_eq, Bool.eq_iff_iff, beq_iff_eq, decide_eq_true_iff]
  refine ⟨fun e => st_inj hl hm ?_, fun e => by rw [e]⟩
  rw [ByteArray.ext_iff]
  exact Array.toList_inj.1 e
theorem Oct.cons {x : Nat} {l : List Nat} (hx : x < 256) (h : Oct l) : Oct (x :: l) := by
  intro y hy
  rcases List.mem_cons.1 hy with e | e
  · omega
  · exact h y e
theorem Oct.suf {l m : List Nat} (h : Oct l) (k : m <:+ l) : Oct m := fun x hx => h x (k.subset hx)
end Go.Proofs.YtbhlmmbknmejkaaDoor

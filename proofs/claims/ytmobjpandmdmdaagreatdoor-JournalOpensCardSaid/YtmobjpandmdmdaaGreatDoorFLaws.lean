/- Laws at operations: bytes that are made, texts that are copied into them, texts that are cut. -/
import Derived.Test.YtmobjpandmdmdaaGreatDoorFErr2
namespace Go.Proofs.YtmobjpandmdmdaaGreatDoor
open Go.RowKit

theorem step_copy_str {P : Program} {ops : Array Oper} {o : Oper} {a : Act} {w : World} {K : Act → World → Prop} {Q : Exit → Act → World → Prop} {E : Prop} (hgd : o.guard = none) (d s : Operand) (dT sT : TypeId)
    (ho : o.op = .call { callee := .builtin .copy, args := #[d, s], argTypes := #[dT, sT] }) (elem : TypeId) (hu : P.underlying dT = some (.slice elem)) (hsz : (P.info? elem).map (·.size) = some 1)
    (b off dLen dCap : Nat) (t : ByteArray) (hd : a.eval d = .slice (some ⟨b, off, none⟩) dLen dCap) (hs : a.eval s = .string t) (ht : w.there b off (Nat.min t.size dLen))
    (h : K (a.put o.dst (goInt (Nat.min t.size dLen))) (w.setCells b off (strCells t (Nat.min t.size dLen)))) :
    if Region.wanted o (yielded ops a.tmps) = true then Oper.wp P o a w K Q else E := by
  have hw : Region.wanted o (yielded ops a.tmps) = true := by simp [Region.wanted, hgd]
  rw [if_pos hw]
  have hrun := run_copy_str (P := P) w dT sT o.type elem b off dLen dCap t hu hsz ht
  unfold Oper.wp
  simp [execOp, ho, resolve, invoke, builtin, hd, hs, hrun, Result.andThen]
  exact h
theorem run_rest_string {P : Program} (w : World) (t : TypeId) (s : ByteArray) (k : IntKind) (i : Nat) (h : P.underlying t = some .string) (hi : i ≤ s.size) :
    (Instr.slice t (.string s) (some (.int k (i : Int))) none none).run P w = .ok (.string (s.extract i s.size)) w := by
  rw [run_slice_string_from_if w t s k i h, if_pos (by omega)]; simp
theorem run_first_string {P : Program} (w : World) (t : TypeId) (s : ByteArray) (k : IntKind) (i : Nat) (h : P.underlying t = some .string) (hi : i ≤ s.size) :
    (Instr.slice t (.string s) none (some (.int k (i : Int))) none).run P w = .ok (.string (s.extract 0 i)) w := by
  rw [run_slice_string_to_if w t s k i h, if_pos (by omega)]; simp
theorem run_mid_string {P : Program} (w : World) (t : TypeId) (s : ByteArray) (k k' : IntKind) (i j : Nat) (h : P.underlying t = some .string) (hi : i ≤ j) (hj : j ≤ s.size) :
    (Instr.slice t (.string s) (some (.int k (i : Int))) (some (.int k' (j : Int))) none).run P w = .ok (.string (s.extract i j)) w := by
  rw [run_slice_string_if w t s k k' i j h, if_pos (by omega)]; simp; omega
theorem extract_list (s : ByteArray) (i j : Nat) : (s.extract i j).data.toList = (s.data.toList.take j).drop i := by
  simp [ByteArray.data_extract, Array.toList_extract, List.drop_take]
theorem extract_from (s : ByteArray) (i : Nat) : (s.extract i s.size).data.toList = s.data.toList.drop i := by
  rw [extract_list, List.take_of_length_le (by rw [size_toList]; omega)]
theorem extract_to (s : ByteArray) (i : Nat) : (s.extract 0 i).data.toList = s.data.toList.take i := by
  rw [extract_list, List.drop_zero]
/-- A text, of its bytes. -/
def bs (l : List UInt8) : ByteArray := ⟨l.toArray⟩
theorem bs_eq (l : List UInt8) : (⟨l.toArray⟩ : ByteArray) = bs l := rfl
theorem bs_list (l : List UInt8) : (bs l).data.toList = l := by simp [bs]
theorem bs_of {s : ByteArray} {l : List UInt8} (h : s.data.toList = l) : s = bs l := by
  cases s with
  | mk d => unfold bs; rw [← h]
theorem bs_self (s : ByteArray) : bs s.data.toList = s := (bs_of rfl).symm
theorem bs_size (l : List UInt8) : (bs l).size = l.length := by rw [← size_toList, bs_list]
theorem bs_append (a b : List UInt8) : bs a ++ bs b = bs (a ++ b) := bs_of (by simp [bs])
theorem bs_inj {a b : List UInt8} (h : bs a = bs b) : a = b := by rw [← bs_list a, h, bs_list]
attribute [irreducible] bs
theorem zero_add (a b : Nat) : Fr.zero (a + b) = Fr.zero a ++ Fr.zero b := by unfold Fr.zero; exact (List.replicate_append_replicate ..).symm
theorem zero_split {n a b : Nat} (h : n = a + b) : Fr.zero n = Fr.zero a ++ Fr.zero b := by rw [h, zero_add]
theorem zb_u8 (n : Nat) : zb n = (Fr.zero n).map u8v := by unfold zb; rfl
theorem wpList_make_zb {ops : Array Oper} {rest : List Oper} {o : Oper} {a : Act} {w : World} {Q : Exit → Act → World → Prop} (hgd : o.guard = none) (x y : Operand) (ho : o.op = .makeSlice 57 x y)
    (n : Nat) (hn : n ≤ 70368744177664) (hx : a.eval x = .int .i64 n) (hy : a.eval y = .int .i64 n)
    (h : ∀ w', Hid (w'.heap[w.heap.size]? = some (.cells ((Fr.zero n).map u8v).toArray 5 (0, 0))) → Hid (Below w.heap.size w w') → Hid (w'.heap.size = w.heap.size + 1) → wpList Tryz.prog ops Q rest (a.put o.dst (.slice (some ⟨w.heap.size, 0, none⟩) n n)) w') : wpList Tryz.prog ops Q (o :: rest) a w := by
  refine wpList_run hgd _ (w.alloc (.cells (zb n).toArray 5)) ?_ (h _ (Lib.hid (by rw [← zb_u8]; exact heap_alloc_new _ _)) (Lib.hid ((Below.refl _ _).alloc (Nat.le_refl _) _)) (Lib.hid (by simp)))
  unfold execOp
  simp only [ho, hx, hy, Sem.run_bind, make_bytes n hn w, Result.andThen_ok]
  rfl
/-- A text copied into the middle of bytes that lie there. -/
theorem copied {w : World} {b : Nat} {A B C vs : List Value} {T : TypeId} (hg : w.heap[b]? = some (.cells (A ++ (B ++ C)).toArray T (0, 0))) (hB : B.length = vs.length) : (w.setCells b A.length vs).heap[b]? = some (.cells (A ++ (vs ++ C)).toArray T (0, 0)) := by
  have := setCells_list vs A.length _ w hg
  rwa [laid_mid' _ _ _ _ hB] at this
theorem wpList_copy_part {P : Program} {w : World} {ops : Array Oper} {rest : List Oper} {o : Oper} {a : Act} {Q : Exit → Act → World → Prop} (hgd : o.guard = none) (d s : Operand) (dT sT : TypeId)
    (ho : o.op = .call { callee := .builtin .copy, args := #[d, s], argTypes := #[dT, sT] }) (elem : TypeId) (hu : P.underlying dT = some (.slice elem)) (hsz : (P.info? elem).map (·.size) = some 1)
    (b off dLen dCap : Nat) (l : List UInt8) (t : ByteArray) (hd : a.eval d = .slice (some ⟨b, off, none⟩) dLen dCap) (hs : a.eval s = .string t) (htl : t.data.toList = l) (ht : l.length ≤ dLen)
    (A B C : List Value) (T : TypeId) (hg : w.heap[b]? = some (.cells (A ++ (B ++ C)).toArray T (0, 0))) (hA : A.length = off) (hB : B.length = l.length)
    (h : ∀ w', Hid (w'.heap[b]? = some (.cells (A ++ (l.map u8v ++ C)).toArray T (0, 0))) → Hid (Kept w.heap.size [b] w w') → Hid (w'.heap.size = w.heap.size) → wpList P ops Q rest (a.put o.dst (goInt l.length)) w') : wpList P ops Q (o :: rest) a w := by
  subst htl hA
  have hm : Nat.min t.size dLen = t.size := Nat.min_eq_left (by rw [← size_toList]; exact ht)
  rw [size_toList] at h hB
  refine wpList_copy_str hgd d s dT sT ho elem hu hsz b A.length dLen dCap t hd hs (by rw [hm]; exact there_of_list hg (by simp; omega)) ?_
  rw [hm]
  have he : strCells t t.size = t.data.toList.map u8v := by rw [strCells, List.take_of_length_le (by rw [size_toList]; omega)]
  rw [he]
  exact h _ (Lib.hid (copied hg (by rw [List.length_map, size_toList, hB]))) (Lib.hid (kept_setCells _ _ _ _)) (Lib.hid (setCells_size _ _ _))
theorem step_copy_part {P : Program} {ops : Array Oper} {o : Oper} {a : Act} {w : World} {K : Act → World → Prop} {Q : Exit → Act → World → Prop} {E : Prop} (hgd : o.guard = none) (d s : Operand) (dT sT : TypeId)
    (ho : o.op = .call { callee := .builtin .copy, args := #[d, s], argTypes := #[dT, sT] }) (elem : TypeId) (hu : P.underlying dT = some (.slice elem)) (hsz : (P.info? elem).map (·.size) = some 1)
    (b off dLen dCap : Nat) (l : List UInt8) (t : ByteArray) (hd : a.eval d = .slice (some ⟨b, off, none⟩) dLen dCap) (hs : a.eval s = .string t) (htl : t.data.toList = l) (ht : l.length ≤ dLen)
    (A B C : List Value) (T : TypeId) (hg : w.heap[b]? = some (.cells (A ++ (B ++ C)).toArray T (0, 0))) (hA : A.length = off) (hB : B.length = l.length) (dst : Option Tmp) (hdst : o.dst = dst)
    (h : ∀ w', Hid (w'.heap[b]? = some (.cells (A ++ (l.map u8v ++ C)).toArray T (0, 0))) → Hid (Kept w.heap.size [b] w w') → Hid (w'.heap.size = w.heap.size) → K (a.put dst (goInt l.length)) w') :
    if Region.wanted o (yielded ops a.tmps) = true then Oper.wp P o a w K Q else E := by
  subst htl hA hdst
  have hm : Nat.min t.size dLen = t.size := Nat.min_eq_left (by rw [← size_toList]; exact ht)
  rw [size_toList] at h hB
  refine step_copy_str hgd d s dT sT ho elem hu hsz b A.length dLen dCap t hd hs (by rw [hm]; exact there_of_list hg (by simp; omega)) ?_
  rw [hm]
  have he : strCells t t.size = t.data.toList.map u8v := by rw [strCells, List.take_of_length_le (by rw [size_toList]; omega)]
  rw [he]
  exact h _ (Lib.hid (copied hg (by rw [List.length_map, size_toList, hB]))) (Lib.hid (kept_setCells _ _ _ _)) (Lib.hid (setCells_size _ _ _))
end Go.Proofs.YtmobjpandmdmdaaGreatDoor

/- What a record looks like; the chapter's examples, reckoned. -/
import Derived.Test.YtmobjpandmdmdaaGreatDoorFUnpack
namespace Go.Proofs.YtmobjpandmdmdaaGreatDoor
open Go.RowKit

theorem rec_split (e n : Nat) (p behind : List UInt8) : ∃ z, Fr.record e n p ++ behind = u4 ++ (Fr.headOf e n p.length ++ (Fr.sumOf (Fr.headOf e n p.length) p ++ (p ++ z))) ∧ z = Fr.zero (Fr.whole p.length - 24 - p.length) ++ behind := by
  refine ⟨_, ?_, rfl⟩
  unfold Fr.record u4
  simp
theorem cut_list (A B C : List UInt8) (i j : Nat) (hi : i = A.length) (hj : j = A.length + B.length) : ((A ++ (B ++ C)).take j).drop i = B := by
  subst hi hj
  rw [← List.append_assoc, List.take_left' (by simp), List.drop_left]
structure IsRec (s : ByteArray) (e n : Nat) (p : List UInt8) : Prop where
  looks : Looks s p.length
  head : (s.extract 4 20).data.toList = Fr.headOf e n p.length
  whole : Fr.whole p.length ≤ s.size
  text : (s.extract 24 (24 + p.length)).data.toList = p
  sum : (s.extract 20 24).data.toList = Fr.sumOf (Fr.headOf e n p.length) p
theorem isRec (e n : Nat) (p behind : List UInt8) (hp : p.length ≤ 60000) (s : ByteArray) (hs : s.data.toList = Fr.record e n p ++ behind) (hmost : s.size ≤ 281474976710656) : IsRec s e n p := by
  have hlen : s.size = Fr.whole p.length + behind.length := by rw [← size_toList, hs, List.length_append, Fr.length_record]
  have hw := Fr.whole_ge p.length
  have hw64 : 64 ≤ Fr.whole p.length := by unfold Fr.whole; omega
  obtain ⟨z, hz, _⟩ := rec_split e n p behind
  rw [hz] at hs
  have l4 : u4.length = 4 := rfl
  have lh := Fr.length_headOf e n p.length
  have ls := Fr.length_sumOf (Fr.headOf e n p.length) p
  have hh : (s.extract 4 20).data.toList = Fr.headOf e n p.length := by rw [extract_list, hs]; exact cut_list _ _ _ _ _ (by rw [l4]) (by rw [l4, lh])
  refine ⟨⟨by omega, hmost, ?_, ?_, hp⟩, hh, by omega, ?_, ?_⟩
  · rw [strAt_eq, hs]; rfl
  · have e8 : (s.data.toList.take 8).drop 4 = ((s.data.toList.take 20).drop 4).take 4 := by
      rw [List.drop_take, List.drop_take, List.take_take]; rfl
    rw [e8, ← extract_list, hh, Fr.headOf]
    rw [show Fr.be 4 p.length ++ Fr.be 4 n ++ Fr.be 8 e = Fr.be 4 p.length ++ (Fr.be 4 n ++ Fr.be 8 e) by simp, List.take_left' (Fr.length_be 4 _)]
    exact Fr.num_be_lt (by omega)
  · rw [extract_list, hs, show u4 ++ (Fr.headOf e n p.length ++ (Fr.sumOf (Fr.headOf e n p.length) p ++ (p ++ z))) = (u4 ++ Fr.headOf e n p.length ++ Fr.sumOf (Fr.headOf e n p.length) p) ++ (p ++ z) by simp]
    exact cut_list _ _ _ _ _ (by simp [l4, lh, ls]) (by simp [l4, lh, ls])
  · rw [extract_list, hs, show u4 ++ (Fr.headOf e n p.length ++ (Fr.sumOf (Fr.headOf e n p.length) p ++ (p ++ z))) = (u4 ++ Fr.headOf e n p.length) ++ (Fr.sumOf (Fr.headOf e n p.length) p ++ (p ++ z)) by simp]
    exact cut_list _ _ _ _ _ (by simp [l4, lh]) (by simp [l4, lh, ls])
theorem Unpack_rec (s : ByteArray) (e n : Nat) (p : List UInt8) (he : e ≤ 4611686018427387904) (hn : n ≤ 4294967295) (h : IsRec s e n p) (w : World) :
    Calls Tryz.prog 77 #[.string s, .int .i64 e, .int .i64 n] w fun r w' => r = .returned (.tuple #[.string (bs p), .int .i64 (Fr.whole p.length), .nilIface]) ∧ Below w.heap.size w w' :=
  Unpack_ok s e n p.length p he hn h.looks h.head h.whole h.text h.sum w

theorem ex_num : Fr.be 4 258 = [0, 0, 1, 2] := by decide +kernel
theorem ex_list : Fr.list [[97], []] = [0, 0, 0, 2, 0, 0, 0, 1, 97, 0, 0, 0, 0] := by decide +kernel
theorem ex_split : Fr.split [0, 0, 0, 2, 0, 0, 0, 1, 97, 0, 0, 0, 0] = .inr [[97], []] := by decide +kernel
theorem ex_left : Fr.split [0, 0, 0, 2, 0, 0, 0, 1, 97, 0, 0, 0, 0, 120] = .inl 13 := by decide +kernel
theorem ex_head : Fr.headOf 7 1 2 ≠ Fr.headOf 7 2 2 := by decide +kernel
theorem ex_sum : Fr.sum [49, 50, 51, 52, 53, 54, 55, 56, 57] = 3808858755 := by decide +kernel
theorem ex_more : Fr.more (Fr.sum [49, 50, 51, 52]) [53, 54, 55, 56, 57] = 3808858755 := by rw [Fr.sum_append]; exact ex_sum
end Go.Proofs.YtmobjpandmdmdaaGreatDoor

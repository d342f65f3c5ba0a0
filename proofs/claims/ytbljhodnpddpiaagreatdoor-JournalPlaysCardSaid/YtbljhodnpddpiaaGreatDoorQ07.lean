/- Several texts in one, in the order in which they build: FUnpack FRec JShelf JSpec JPen. -/
import Derived.Test.YtbljhodnpddpiaaGreatDoorQ06
import Derived.Shelf.Strings.Prefix
import Derived.Shelf.Strings.Repeat
import Derived.Deep.RegionHeldLaw
/- The walks of records that are taken apart. -/
namespace Go.Proofs.YtbljhodnpddpiaaGreatDoor
open Go.RowKit

theorem run_index_byte_0 {P : Program} (w : World) (t : TypeId) (s : ByteArray) (k : IntKind) (h : P.underlying t = some .string) (hi : 0 < s.size) :
    (Instr.index t (.string s) (.int k 0)).run P w = .ok (.int .u8 ((strAt s 0).toNat : Int)) w := run_index_byte w t s k 0 h hi
attribute [local go_sem high] run_index_byte_0
theorem is_one {c : UInt8} (h : c = 1) : ((c.toNat : Int) != 1) = false := by rw [h]; rfl
theorem not_one {c : UInt8} (h : c ≠ 1) : ((c.toNat : Int) != 1) = true := by
  rw [bne_iff_ne]; intro e; exact h (UInt8.toNat.inj (by rw [show (1 : UInt8).toNat = 1 from rfl]; omega))
set_option maxHeartbeats 1000000 in
theorem Unpack_mark (s : ByteArray) (e n : Int) (hs : 64 ≤ s.size) (h : strAt s 0 ≠ 1) (w : World) :
    Calls Tryz.prog 92 #[.string s, .int .i64 e, .int .i64 n] w (Refused 20 0 (fun v => .tuple #[.string ⟨#[]⟩, .int .i64 0, v]) w) := by
  have hb := not_one h
  have h0 : 0 < s.size := by omega
  clear h
  go_enter Tryz.func92, Tryz.ntmps92
  go_wp2_with (go_at_call 106; refine (fault_is 20 0 _).mono ?_; rintro r w' ⟨g, hg, rfl, hf, hb2⟩; have HF := Lib.hid hf; have HB := Lib.hid hb2; clear hf hb2)
  go_ret3
  exact ⟨g, hg, rfl, HF.out, HB.out⟩
/-- What stands at the head: the mark and the length. -/
structure Looks (s : ByteArray) (m : Nat) : Prop where
  size : 64 ≤ s.size
  most : s.size ≤ 281474976710656
  mark : strAt s 0 = 1
  num : Fr.num ((s.data.toList.take 8).drop 4) = m
  few : m ≤ 60000
theorem Looks.number {s : ByteArray} {m : Nat} (h : Looks s m) (w : World) : Calls Tryz.prog 107 #[.string (s.extract 4 8)] w fun e w' => e = .returned (.int .u64 m) ∧ w = w' := by
  have := numberOf_any (s.extract 4 8) (by rw [← size_toList, extract_list, List.length_drop, List.length_take]; omega) w
  rw [extract_list, h.num] at this
  exact this
set_option maxRecDepth 100000 in
set_option maxHeartbeats 1000000 in
theorem Unpack_head (s : ByteArray) (e n m : Nat) (he : e ≤ 4611686018427387904) (hn : n ≤ 4294967295) (h : Looks s m) (hh : (s.extract 4 20).data.toList ≠ Fr.headOf e n m) (w : World) :
    Calls Tryz.prog 92 #[.string s, .int .i64 e, .int .i64 n] w (Refused 20 0 (fun v => .tuple #[.string ⟨#[]⟩, .int .i64 0, v]) w) := by
  have hb := is_one h.mark
  have hs := h.size
  have h0 : 0 < s.size := by omega
  have hm := h.few
  obtain ⟨q, hq⟩ : ∃ q, q = bs (Fr.headOf e n m) := ⟨_, rfl⟩
  have hne : ((s.extract 4 20).toList == q.toList) = false := by rw [ByteArray.toList_eq, ByteArray.toList_eq, beq_eq_false_iff_ne, hq, bs_list]; exact hh
  have HQ := Lib.hid hq
  have HN := Lib.hid (fun v : World => h.number v)
  clear h hq hh
  go_enter Tryz.func92, Tryz.ntmps92
  go_wp2_with (first | (go_at_call 106; refine (fault_is 20 0 _).mono ?_; rintro r w' ⟨g, hg, rfl, hf, hb2⟩; have HF := Lib.hid hf; have HB := Lib.hid hb2; clear hf hb2) | (go_at_call 107; refine (HN.out _).mono ?_; rintro r w' ⟨rfl, rfl⟩) | (go_at_call 101; refine (headOf_ok e n m he hn hm _).mono ?_; rintro r wa ⟨rfl, hb⟩; rw [← HQ.out]; have HBA := Lib.hid hb; clear hb) | (go_at_call 49; refine (errorsIs_nil _ _).mono ?_; rintro r w' ⟨rfl, rfl⟩))
  go_ret3
  exact ⟨g, Nat.le_trans HBA.out.size hg, rfl, HF.out, HBA.out.trans (HB.out.mono HBA.out.size)⟩
set_option maxRecDepth 100000 in
set_option maxHeartbeats 1000000 in
theorem Unpack_sum (s : ByteArray) (e n m : Nat) (p : List UInt8) (he : e ≤ 4611686018427387904) (hn : n ≤ 4294967295) (h : Looks s m) (hh : (s.extract 4 20).data.toList = Fr.headOf e n m) (hw : Fr.whole m ≤ s.size)
    (hp : (s.extract 24 (24 + m)).data.toList = p) (hx : (s.extract 20 24).data.toList ≠ Fr.sumOf (Fr.headOf e n m) p) (w : World) :
    Calls Tryz.prog 92 #[.string s, .int .i64 e, .int .i64 n] w (Refused 20 0 (fun v => .tuple #[.string ⟨#[]⟩, .int .i64 0, v]) w) := by
  have hb := is_one h.mark
  have hs := h.size
  have h0 : 0 < s.size := by omega
  have hm := h.few
  have hwm := Fr.whole_ge m
  obtain ⟨W, hW⟩ : ∃ W, W = Fr.whole m := ⟨_, rfl⟩
  rw [← hW] at hw hwm
  obtain ⟨q, hq⟩ : ∃ q, q = bs (Fr.headOf e n m) := ⟨_, rfl⟩
  have hqz : q.size ≤ 60000 := by rw [hq, bs_size, Fr.length_headOf]; omega
  have hne : ((s.extract 4 20).toList == q.toList) = true := by rw [ByteArray.toList_eq, ByteArray.toList_eq, beq_iff_eq, hq, bs_list]; exact hh
  obtain ⟨x, hxx⟩ : ∃ x, x = bs (Fr.sumOf (Fr.headOf e n m) p) := ⟨_, rfl⟩
  have hne2 : ((s.extract 20 24).toList == x.toList) = false := by rw [ByteArray.toList_eq, ByteArray.toList_eq, beq_eq_false_iff_ne, hxx, bs_list]; exact hx
  have hpz : (s.extract 24 (24 + m)).size ≤ 60000 := by rw [← size_toList, extract_list, List.length_drop, List.length_take]; omega
  have CS := Lib.hid (fun v : World => sumOf_any q (s.extract 24 (24 + m)) hqz hpz v)
  rw [hp, hq, bs_list, ← hxx, ← hq] at CS
  have HQ := Lib.hid hq
  have HW := Lib.hid hW
  have HN := Lib.hid (fun v : World => h.number v)
  clear h hq hh hW hx hp hxx hqz hpz
  go_enter Tryz.func92, Tryz.ntmps92
  go_wp2_with (first | (go_at_call 107; refine (HN.out _).mono ?_; rintro r w' ⟨rfl, rfl⟩) | (go_at_call 101; refine (headOf_ok e n m he hn hm _).mono ?_; rintro r wa ⟨rfl, hb⟩; rw [← HQ.out]; have HBA := Lib.hid hb; clear hb) | (go_at_call 49; refine (errorsIs_nil _ _).mono ?_; rintro r w' ⟨rfl, rfl⟩) | (go_at_call 102; refine (whole_any m (by omega) _).mono ?_; rintro r w' ⟨rfl, rfl⟩; rw [← HW.out]))
  have i20 : (24 : Int) ≤ (s.size : Int) := by omega
  go_region_law (first | (go_simp; go_at_call 103; (with_reducible refine (CS.out _).mono ?_); rintro r w4 ⟨rfl, h4⟩; have B4 := Lib.hid (HBA.out.drew.trans (h4.mono HBA.out.size)); clear h4) | fail)
  all_goals
    go_wp2_with (go_at_call 106; refine (fault_is 20 0 _).mono ?_; rintro r w' ⟨g, hg, rfl, hf, hb2⟩; have HF := Lib.hid hf; have HB := Lib.hid hb2; clear hf hb2)
    go_ret3
    exact ⟨g, Nat.le_trans B4.out.size hg, rfl, HF.out, B4.out.trans (HB.out.mono B4.out.size)⟩
set_option maxRecDepth 100000 in
set_option maxHeartbeats 1000000 in
theorem Unpack_ok (s : ByteArray) (e n m : Nat) (p : List UInt8) (he : e ≤ 4611686018427387904) (hn : n ≤ 4294967295) (h : Looks s m) (hh : (s.extract 4 20).data.toList = Fr.headOf e n m) (hw : Fr.whole m ≤ s.size)
    (hp : (s.extract 24 (24 + m)).data.toList = p) (hx : (s.extract 20 24).data.toList = Fr.sumOf (Fr.headOf e n m) p) (w : World) :
    Calls Tryz.prog 92 #[.string s, .int .i64 e, .int .i64 n] w fun r w' => r = .returned (.tuple #[.string (bs p), .int .i64 (Fr.whole m), .nilIface]) ∧ Below w.heap.size w w' := by
  have hb := is_one h.mark
  have hs := h.size
  have h0 : 0 < s.size := by omega
  have hm := h.few
  have hwm := Fr.whole_ge m
  obtain ⟨W, hW⟩ : ∃ W, W = Fr.whole m := ⟨_, rfl⟩
  rw [← hW] at hw hwm
  obtain ⟨q, hq⟩ : ∃ q, q = bs (Fr.headOf e n m) := ⟨_, rfl⟩
  have hqz : q.size ≤ 60000 := by rw [hq, bs_size, Fr.length_headOf]; omega
  have hne : ((s.extract 4 20).toList == q.toList) = true := by rw [ByteArray.toList_eq, ByteArray.toList_eq, beq_iff_eq, hq, bs_list]; exact hh
  obtain ⟨x, hxx⟩ : ∃ x, x = bs (Fr.sumOf (Fr.headOf e n m) p) := ⟨_, rfl⟩
  have hne2 : ((s.extract 20 24).toList == x.toList) = true := by rw [ByteArray.toList_eq, ByteArray.toList_eq, beq_iff_eq, hxx, bs_list]; exact hx
  have hpz : (s.extract 24 (24 + m)).size ≤ 60000 := by rw [← size_toList, extract_list, List.length_drop, List.length_take]; omega
  have CS := Lib.hid (fun v : World => sumOf_any q (s.extract 24 (24 + m)) hqz hpz v)
  rw [hp, hq, bs_list, ← hxx, ← hq] at CS
  have HP := Lib.hid (bs_of hp)
  rw [hxx] at hne2
  rw [← hxx] at hne2
  have HPZ := Lib.hid hpz
  have HQ := Lib.hid hq
  have HW := Lib.hid hW
  have HN := Lib.hid (fun v : World => h.number v)
  clear h hq hh hW hx hp hxx hqz hpz
  go_enter Tryz.func92, Tryz.ntmps92
  go_wp2_with (first | (go_at_call 107; refine (HN.out _).mono ?_; rintro r w' ⟨rfl, rfl⟩) | (go_at_call 101; refine (headOf_ok e n m he hn hm _).mono ?_; rintro r wa ⟨rfl, hb⟩; rw [← HQ.out]; have HBA := Lib.hid hb; clear hb) | (go_at_call 49; refine (errorsIs_nil _ _).mono ?_; rintro r w' ⟨rfl, rfl⟩) | (go_at_call 102; refine (whole_any m (by omega) _).mono ?_; rintro r w' ⟨rfl, rfl⟩; rw [← HW.out]))
  have i20 : (24 : Int) ≤ (s.size : Int) := by omega
  go_region_law (first | (go_simp; go_at_call 103; (with_reducible refine (CS.out _).mono ?_); rintro r w4 ⟨rfl, h4⟩; have B4 := Lib.hid (HBA.out.drew.trans (h4.mono HBA.out.size)); clear h4) | fail)
  all_goals
    go_wp2_with (first | (go_at_call 108; refine (Clone_any _ _ (by have := HPZ.out; omega)).mono ?_; rintro r w5 ⟨rfl, hb⟩; rw [HP.out]; have B5 := Lib.hid (B4.out.trans (hb.mono B4.out.size)); clear hb) | (go_at_call 102; refine (whole_any m (by omega) _).mono ?_; rintro r w' ⟨rfl, rfl⟩; rw [← HW.out]))
    go_ret3
    exact ⟨by rw [← HW.out]; rfl, B5.out⟩
end Go.Proofs.YtbljhodnpddpiaaGreatDoor

/- What a record looks like; the chapter's examples, reckoned. -/
namespace Go.Proofs.YtbljhodnpddpiaaGreatDoor
open Go.RowKit

theorem rec_split (e n : Nat) (p behind : List UInt8) : ∃ z, Fr.record e n p ++ behind = u4 ++ (Fr.headOf e n p.length ++ (Fr.sumOf (Fr.headOf e n p.length) p ++ (p ++ z))) ∧ z = Fr.zero (Fr.whole p.length - 24 - p.length) ++ behind := by
  refine ⟨_, ?_, rfl⟩
  unfold Fr.record u4
  simp
theorem cut_list (A B C : List UInt8) (i j : Nat) (hi : i = A.length) (hj : j = A.length + B.length) : ((A ++ (B ++ C)).take j).drop i = B := by
  subst hi hj
  rw [← List.append_assoc, List.take_left' (by simp), List.drop_left]
structure IsRec (s : ByteArray) (e n : Nat) (p : List UInt8) : Prop where
  looks : Looks s p.length
  head : (s.extract 4 20).data.toList = Fr.headOf e n p.length
  whole : Fr.whole p.length ≤ s.size
  text : (s.extract 24 (24 + p.length)).data.toList = p
  sum : (s.extract 20 24).data.toList = Fr.sumOf (Fr.headOf e n p.length) p
theorem isRec (e n : Nat) (p behind : List UInt8) (hp : p.length ≤ 60000) (s : ByteArray) (hs : s.data.toList = Fr.record e n p ++ behind) (hmost : s.size ≤ 281474976710656) : IsRec s e n p := by
  have hlen : s.size = Fr.whole p.length + behind.length := by rw [← size_toList, hs, List.length_append, Fr.length_record]
  have hw := Fr.whole_ge p.length
  have hw64 : 64 ≤ Fr.whole p.length := by unfold Fr.whole; omega
  obtain ⟨z, hz, _⟩ := rec_split e n p behind
  rw [hz] at hs
  have l4 : u4.length = 4 := rfl
  have lh := Fr.length_headOf e n p.length
  have ls := Fr.length_sumOf (Fr.headOf e n p.length) p
  have hh : (s.extract 4 20).data.toList = Fr.headOf e n p.length := by rw [extract_list, hs]; exact cut_list _ _ _ _ _ (by rw [l4]) (by rw [l4, lh])
  refine ⟨⟨by omega, hmost, ?_, ?_, hp⟩, hh, by omega, ?_, ?_⟩
  · rw [strAt_eq, hs]; rfl
  · have e8 : (s.data.toList.take 8).drop 4 = ((s.data.toList.take 20).drop 4).take 4 := by
      rw [List.drop_take, List.drop_take, List.take_take]; rfl
    rw [e8, ← extract_list, hh, Fr.headOf]
    rw [show Fr.be 4 p.length ++ Fr.be 4 n ++ Fr.be 8 e = Fr.be 4 p.length ++ (Fr.be 4 n ++ Fr.be 8 e) by simp, List.take_left' (Fr.length_be 4 _)]
    exact Fr.num_be_lt (by omega)
  · rw [extract_list, hs, show u4 ++ (Fr.headOf e n p.length ++ (Fr.sumOf (Fr.headOf e n p.length) p ++ (p ++ z))) = (u4 ++ Fr.headOf e n p.length ++ Fr.sumOf (Fr.headOf e n p.length) p) ++ (p ++ z) by simp]
    exact cut_list _ _ _ _ _ (by simp [l4, lh, ls]) (by simp [l4, lh, ls])
  · rw [extract_list, hs, show u4 ++ (Fr.headOf e n p.length ++ (Fr.sumOf (Fr.headOf e n p.length) p ++ (p ++ z))) = (u4 ++ Fr.headOf e n p.length) ++ (Fr.sumOf (Fr.headOf e n p.length) p ++ (p ++ z)) by simp]
    exact cut_list _ _ _ _ _ (by simp [l4, lh]) (by simp [l4, lh, ls])
theorem Unpack_rec (s : ByteArray) (e n : Nat) (p : List UInt8) (he : e ≤ 4611686018427387904) (hn : n ≤ 4294967295) (h : IsRec s e n p) (w : World) :
    Calls Tryz.prog 92 #[.string s, .int .i64 e, .int .i64 n] w fun r w' => r = .returned (.tuple #[.string (bs p), .int .i64 (Fr.whole p.length), .nilIface]) ∧ Below w.heap.size w w' :=
  Unpack_ok s e n p.length p he hn h.looks h.head h.whole h.text h.sum w

theorem ex_num : Fr.be 4 258 = [0, 0, 1, 2] := by decide +kernel
theorem ex_list : Fr.list [[97], []] = [0, 0, 0, 2, 0, 0, 0, 1, 97, 0, 0, 0, 0] := by decide +kernel
theorem ex_split : Fr.split [0, 0, 0, 2, 0, 0, 0, 1, 97, 0, 0, 0, 0] = .inr [[97], []] := by decide +kernel
theorem ex_left : Fr.split [0, 0, 0, 2, 0, 0, 0, 1, 97, 0, 0, 0, 0, 120] = .inl 13 := by decide +kernel
theorem ex_head : Fr.headOf 7 1 2 ≠ Fr.headOf 7 2 2 := by decide +kernel
theorem ex_sum : Fr.sum [49, 50, 51, 52, 53, 54, 55, 56, 57] = 3808858755 := by decide +kernel
theorem ex_more : Fr.more (Fr.sum [49, 50, 51, 52]) [53, 54, 55, 56, 57] = 3808858755 := by rw [Fr.sum_append]; exact ex_sum
end Go.Proofs.YtbljhodnpddpiaaGreatDoor

/- The library's contracts of strings.HasPrefix and strings.Repeat as this program numbers them; a builder's first text. -/
namespace Go.Proofs.YtbljhodnpddpiaaGreatDoor
open Go.Shelf
def j_lays99_ren : Go.Shelf.Ren := ⟨fun | 99 => 88 | 206 => 104 | n => n, fun | 9 => 9 | 4 => 4 | 3 => 3 | n => n, fun | n => n⟩
theorem j_lays99 : Go.Proofs.Lays.n99 Tryz.prog j_lays99_ren := {
  mixed := by kernel_rfl
  f99 := Tryz.func88.trans (congrArg some (by kernel_rfl))
  f206 := Tryz.func104.trans (congrArg some (by kernel_rfl))
  t3 := Tryz.underlying3
  a3 := Tryz.isAgg3
  z3 := Tryz.sizeOf3
  v3 := Tryz.zeroValue3
  t4 := Tryz.underlying4
  a4 := Tryz.isAgg4
  z4 := Tryz.sizeOf4
  v4 := Tryz.zeroValue4
  t9 := Tryz.underlying9
  a9 := Tryz.isAgg9
  z9 := Tryz.sizeOf9
  v9 := Tryz.zeroValue9 }
open Go.RowKit Go.Lib in
/-- strings.HasPrefix: "HasPrefix reports whether the string s begins with prefix.": IT RETURNS 'Lib.hasPrefix s prefix'; the world is as it was. (LAID: no walk: one application.) -/
theorem j_strings_HasPrefix (s p : ByteArray) (w : World) :
    Calls Tryz.prog 88 #[.string s, .string p] w fun e w' => e = .returned (.bool (Lib.hasPrefix s.data.toList p.data.toList)) ∧ w' = w := Any.strings_HasPrefix j_lays99 s p w
def j_lays105_ren : Go.Shelf.Ren := ⟨fun | 105 => 81 | 212 => 93 | 99 => 88 | 165 => 65 | 166 => 87 | 170 => 94 | 169 => 67 | 263 => 109 | 264 => 110 | 206 => 104 | 240 => 84 | 241 => 85 | 276 => 99 | 277 => 100 | n => n, fun | 9 => 9 | 3 => 3 | 4 => 4 | 20 => 20 | 0 => 0 | 46 => 171 | 109 => 174 | 5 => 5 | 72 => 121 | 76 => 122 | 51 => 177 | 146 => 186 | 53 => 170 | 148 => 188 | 70 => 119 | 37 => 59 | 75 => 37 | 127 => 150 | 164 => 131 | 80 => 49 | n => n, fun | n => n⟩
theorem j_lays105 : Go.Proofs.Lays.n105 Tryz.prog j_lays105_ren := {
  mixed := by kernel_rfl
  f99 := Tryz.func88.trans (congrArg some (by kernel_rfl))
  f105 := Tryz.func81.trans (congrArg some (by kernel_rfl))
  f165 := Tryz.func65.trans (congrArg some (by kernel_rfl))
  f166 := Tryz.func87.trans (congrArg some (by kernel_rfl))
  f169 := Tryz.func67.trans (congrArg some (by kernel_rfl))
  f170 := Tryz.func94.trans (congrArg some (by kernel_rfl))
  f206 := Tryz.func104.trans (congrArg some (by kernel_rfl))
  f212 := Tryz.func93.trans (congrArg some (by kernel_rfl))
  f240 := Tryz.func84.trans (congrArg some (by kernel_rfl))
  f241 := Tryz.func85.trans (congrArg some (by kernel_rfl))
  f263 := Tryz.func109.trans (congrArg some (by kernel_rfl))
  f264 := Tryz.func110.trans (congrArg some (by kernel_rfl))
  f276 := Tryz.func99.trans (congrArg some (by kernel_rfl))
  f277 := Tryz.func100.trans (congrArg some (by kernel_rfl))
  t0 := Tryz.underlying0
  a0 := Tryz.isAgg0
  z0 := Tryz.sizeOf0
  v0 := Tryz.zeroValue0
  t3 := Tryz.underlying3
  a3 := Tryz.isAgg3
  z3 := Tryz.sizeOf3
  v3 := Tryz.zeroValue3
  t4 := Tryz.underlying4
  a4 := Tryz.isAgg4
  z4 := Tryz.sizeOf4
  v4 := Tryz.zeroValue4
  t5 := Tryz.underlying5
  a5 := Tryz.isAgg5
  z5 := Tryz.sizeOf5
  v5 := Tryz.zeroValue5
  t9 := Tryz.underlying9
  a9 := Tryz.isAgg9
  z9 := Tryz.sizeOf9
  v9 := Tryz.zeroValue9
  t20 := Tryz.underlying20
  a20 := Tryz.isAgg20
  z20 := Tryz.sizeOf20
  v20 := Tryz.zeroValue20
  t37 := Tryz.underlying59
  a37 := Tryz.isAgg59
  z37 := Tryz.sizeOf59
  v37 := Tryz.zeroValue59
  t46 := Tryz.underlying171
  a46 := Tryz.isAgg171
  z46 := Tryz.sizeOf171
  v46 := Tryz.zeroValue171
  t51 := Tryz.underlying177
  a51 := Tryz.isAgg177
  z51 := Tryz.sizeOf177
  v51 := Tryz.zeroValue177
  t53 := Tryz.underlying170
  a53 := Tryz.isAgg170
  z53 := Tryz.sizeOf170
  v53 := Tryz.zeroValue170
  t70 := Tryz.underlying119
  a70 := Tryz.isAgg119
  z70 := Tryz.sizeOf119
  v70 := Tryz.zeroValue119
  t72 := Tryz.underlying121
  a72 := Tryz.isAgg121
  z72 := Tryz.sizeOf121
  v72 := Tryz.zeroValue121
  t75 := Tryz.underlying37
  a75 := Tryz.isAgg37
  z75 := Tryz.sizeOf37
  v75 := Tryz.zeroValue37
  t76 := Tryz.underlying122
  a76 := Tryz.isAgg122
  z76 := Tryz.sizeOf122
  v76 := Tryz.zeroValue122
  t109 := Tryz.underlying174
  a109 := Tryz.isAgg174
  z109 := Tryz.sizeOf174
  v109 := Tryz.zeroValue174
  t127 := Tryz.underlying150
  a127 := Tryz.isAgg150
  z127 := Tryz.sizeOf150
  v127 := Tryz.zeroValue150
  t146 := Tryz.underlying186
  a146 := Tryz.isAgg186
  z146 := Tryz.sizeOf186
  v146 := Tryz.zeroValue186
  t148 := Tryz.underlying188
  a148 := Tryz.isAgg188
  z148 := Tryz.sizeOf188
  v148 := Tryz.zeroValue188
  t164 := Tryz.underlying131
  a164 := Tryz.isAgg131
  z164 := Tryz.sizeOf131
  v164 := Tryz.zeroValue131 }
theorem j_Builder_Extra_105 : Builder.Extra Tryz.prog j_lays105_ren := {
  sizeBuilder := by kernel_rfl
  liesBuilder := by kernel_rfl
  t5 := Tryz.underlying5
  a5 := Tryz.isAgg5
  z5 := Tryz.sizeOf5
  v5 := Tryz.zeroValue5
  infoByte := by kernel_rfl
  cellsByte := by kernel_rfl
  sizeByte := by kernel_rfl
  neB5 := by decide }
open Go.RowKit Go.Lib in
/-- **strings.Repeat: count ≥ 0, the result within one allocation: count copies of s.** (LAID: no walk: one application.) -/
theorem j_strings_Repeat (s : ByteArray) (c : Nat) (w : World) (hc : c ≤ 9223372036854775807) (hlen : s.size * c ≤ 140737488355328) :
    Calls Tryz.prog 81 #[.string s, .int .i64 c] w fun e w' => e = .returned (.string ⟨(Lib.repeatL s.data.toList c).toArray⟩) ∧ Below w.heap.size w w' := Any.strings_Repeat j_lays105 j_Builder_Extra_105 s c w hc hlen

open Go.RowKit
/-- A builder, written to or not. -/
def Bldr (b : Nat) (l : List UInt8) (w : World) : Prop := Lib.IsBuilder 121 5 b b (l.map u8v) w
theorem Bldr.of_built {b : Nat} {l : List UInt8} {w : World} (h : Built b l w) : Bldr b l w := Or.inr h
theorem Bldr.lt {b : Nat} {l : List UInt8} {w : World} (h : Bldr b l w) : b < w.heap.size := by
  rcases h with ⟨_, v, hbk, _⟩ | ⟨_, v, hbk, _⟩ <;> exact lt_of_heap hbk
theorem Bldr.fresh {b : Nat} {w : World} (h : w.heap[b]? = some (.cells [Value.pointer none, .slice none 0 0].toArray 121 (0, 0))) : Bldr b [] w :=
  Or.inl ⟨Nat.le_refl _, .slice none 0 0, h, World.ownsRow_nil _ _ _ _, by intro e; cases e⟩
theorem copyCheck_is (b : Nat) (l : List UInt8) (w : World) (h : Bldr b l w) :
    Calls Tryz.prog 84 #[.pointer (some ⟨b, 0, none⟩)] w fun e w' => e = .returned (.tuple #[]) ∧ Built b l w' ∧ Below b w w' := by
  refine (Any.Builder_copyCheck { lays165 with } Builder_Extra_165.toX72 b b (l.map u8v) w h).mono ?_
  rintro e w' ⟨rfl, h1, h2⟩
  exact ⟨rfl, h1, h2⟩
set_option maxRecDepth 100000 in
set_option maxHeartbeats 2000000 in
theorem Put_any (b : Nat) (l : List UInt8) (s : ByteArray) (w : World) (h : Bldr b l w) (hlen : l.length + s.size ≤ 140737488355328) :
    Calls Tryz.prog 87 #[.pointer (some ⟨b, 0, none⟩), .string s] w fun e w' => e = .returned (.tuple #[.int .i64 s.size, .nilIface]) ∧ Built b (l ++ s.data.toList) w' ∧ Below b w w' := by
  obtain ⟨i0, hi, hz0, hz1, hz2⟩ := info_parts infoByte
  have hlm : (l.map u8v).length = l.length := List.length_map ..
  have H := Lib.hid h
  clear h
  go_enter Tryz.func87, Tryz.ntmps87
  go_wp2_with fail
  refine (copyCheck_is b l _ H.out).mono ?_
  rintro e w1 ⟨rfl, h1, hb1⟩
  obtain ⟨hB, v, hbk, hown, hne⟩ := h1
  have c1 : w1.cell? ⟨b, 1, none⟩ = some v := by rw [Lib.cell_of_heap hbk]; rfl
  have hlt : b < w1.heap.size := lt_of_heap hbk
  have HBK := Lib.hid hbk
  have HOWN := Lib.hid hown
  have HNE := Lib.hid hne
  have HB1 := Lib.hid hb1
  clear hbk hown hne hB hb1 H
  go_wp2_with (at_builtin; refine Lib.wpList_append_own_string _ rfl _ _ 59 9 rfl b 5 i0 Tryz.underlying59 Tryz.underlying9 hi hz0 hz1 hz2 _ _ _ rfl HOWN.out s rfl ?c3 ?c4 ?c5 ?_)
  case c3 => unfold maxLen; omega
  case c4 => omega
  case c5 => omega
  intro v' w2 hown' hgrow _
  have hb2 : w2.heap[b]? = some (.cells #[.pointer (some ⟨b, 0, none⟩), v] 121 (0, 0)) := by
    rw [hgrow.block b hlt (fun e => HNE.out e.symm)]; exact HBK.out
  have d1 : w2.cell? ⟨b, 1, none⟩ = some v := by rw [Lib.cell_of_heap hb2]; rfl
  have f1 : w2.frozen? ⟨b, 1, none⟩ = false := Lib.frozen_of_heap hb2 1
  obtain ⟨ao, n', cap, rfl⟩ : ∃ ao n' cap, v' = .slice ao n' cap := by
    rcases hown'.2 with ⟨hv, _⟩ | ⟨g, cap, cur, hv, _⟩
    · exact ⟨_, _, _, hv⟩
    · exact ⟨_, _, _, hv⟩
  have HO := Lib.hid hown'
  have HG := Lib.hid hgrow
  have HB2 := Lib.hid hb2
  clear hown' hgrow hb2
  go_wp2
  go_ret2
  have e : (l ++ s.data.toList).map u8v = l.map u8v ++ Lib.strCells s := by rw [List.map_append]; rfl
  refine ⟨rfl, ?_, ?_⟩
  · unfold Built
    rw [e]
    exact Lib.BuilderAt.put (T := 121) (e := 5) (Nat.le_refl _) HB2.out (bs' := l.map u8v ++ Lib.strCells s) (by simpa [Lib.strCells_length] using HO.out) (by decide)
  · exact HB1.out.trans (((Below.refl b w1).grown HG.out (Nat.le_of_lt hlt) (fun k hk => (HOWN.out.lt k hk).1)).setCell (p := ⟨b, 1, none⟩) (Nat.le_refl _) _)
theorem Told_any (b : Nat) (l : List UInt8) (w : World) (h : Bldr b l w) :
    Calls Tryz.prog 67 #[.pointer (some ⟨b, 0, none⟩)] w fun e w' => e = .returned (.string ⟨l.toArray⟩) ∧ Below b w w' :=
  Builder_String_any b b l w h (Nat.le_of_lt h.lt)
/-- A sector of bytes 0. -/
def z64 : List UInt8 := List.replicate 64 0
theorem repeat_z64 : Lib.repeatL [0] 64 = z64 := by decide +kernel
theorem length_z64 : z64.length = 64 := by simp [z64]
theorem empty_any (w : World) : Calls Tryz.prog 58 #[] w fun e w' => e = .returned (.string (bs z64)) ∧ Below w.heap.size w w' := by
  go_enter Tryz.func58, Tryz.ntmps58
  go_wp2_with (go_at_call 81; refine (j_strings_Repeat ⟨#[0]⟩ 64 _ (by omega) (by decide)).mono ?_; rintro e w' ⟨rfl, hb⟩; have HB := Lib.hid hb; clear hb)
  go_ret
  refine ⟨?_, HB.out⟩
  rw [bs_eq]
  rw [show Lib.repeatL (ByteArray.mk #[0]).data.toList 64 = z64 from repeat_z64]
  rfl
end Go.Proofs.YtbljhodnpddpiaaGreatDoor

/- What acts do to a disk, one behind the other, till its power goes. -/
namespace Go.Proofs.YtbljhodnpddpiaaGreatDoor
open Go.RowKit

/-- What a disk and its power have come to. -/
structure St where
  S : List (List UInt8)
  ps : List Dk.Wr
  fuse : Int
  acts : Int
/-- An act: a write, or a flush. -/
inductive Do where
  | put (a : Nat) (s : List UInt8)
  | flush
def St.did (st : St) : Do → St
  | .put a s => ⟨st.S, st.ps ++ [(a, s)], less st.fuse, st.acts + 1⟩
  | .flush => ⟨Dk.settleTo st.S st.ps (fun _ => 64) st.ps.length, [], less st.fuse, st.acts + 1⟩
/-- One act more, if there is power: it goes where the fuse is at its end. -/
def does (x : St × Bool) (o : Do) : St × Bool := if x.2 then (if x.1.fuse = 0 then (x.1, false) else (x.1.did o, true)) else x
def doAll (x : St × Bool) (os : List Do) : St × Bool := os.foldl does x
theorem doAll_nil (x : St × Bool) : doAll x [] = x := rfl
theorem doAll_cons (x : St × Bool) (o : Do) (os : List Do) : doAll x (o :: os) = doAll (does x o) os := rfl
theorem doAll_append (x : St × Bool) (a b : List Do) : doAll x (a ++ b) = doAll (doAll x a) b := List.foldl_append
theorem does_off (st : St) (o : Do) : does (st, false) o = (st, false) := rfl
theorem does_cut {st : St} (h : st.fuse = 0) (o : Do) : does (st, true) o = (st, false) := by simp [does, h]
theorem does_on {st : St} (h : st.fuse ≠ 0) (o : Do) : does (st, true) o = (st.did o, true) := by simp [does, h]
theorem doAll_off (st : St) (os : List Do) : doAll (st, false) os = (st, false) := by
  induction os with
  | nil => rfl
  | cons o os ih => rw [doAll_cons, does_off, ih]
/-- The writes of some sectors, one behind the other. -/
def puts (a : Nat) : List (List UInt8) → List Do
  | [] => []
  | s :: ss => .put a s :: puts (a + 1) ss
theorem puts_nil (a : Nat) : puts a [] = [] := rfl
theorem puts_append (a : Nat) (x y : List (List UInt8)) : puts a (x ++ y) = puts a x ++ puts (a + x.length) y := by
  induction x generalizing a with
  | nil => simp [puts]
  | cons s x ih => simp [puts, ih, Nat.add_assoc, Nat.add_comm 1]
theorem length_puts (a : Nat) (x : List (List UInt8)) : (puts a x).length = x.length := by
  induction x generalizing a with
  | nil => rfl
  | cons s x ih => simp [puts, ih]
theorem puts_take {a k : Nat} {ss : List (List UInt8)} (h : k < ss.length) : puts a (ss.take (k + 1)) = puts a (ss.take k) ++ [.put (a + k) (ss.getD k [])] := by
  rw [List.take_succ_eq_append_getElem h, puts_append, List.length_take, Nat.min_eq_left (by omega), List.getD, List.getElem?_eq_getElem h]; rfl
/-- There is room for so many acts more. -/
structure St.Fit (st : St) (m : Nat) : Prop where
  f1 : -1 ≤ st.fuse
  f2 : st.fuse ≤ 9223372036854775807
  a0 : 0 ≤ st.acts
  a1 : st.acts + m ≤ 1000000000000
  few : st.ps.length + m ≤ 1000000
theorem St.Fit.less {st : St} {m : Nat} (h : st.Fit m) {k : Nat} (hk : k ≤ m) : st.Fit k := ⟨h.f1, h.f2, h.a0, by have := h.a1; omega, by have := h.few; omega⟩
theorem less_low {f : Int} (h : -1 ≤ f) : -1 ≤ less f := by unfold Go.Proofs.YtbljhodnpddpiaaGreatDoor.less; split <;> omega
theorem less_high {f : Int} (h : f ≤ 9223372036854775807) : less f ≤ 9223372036854775807 := by unfold Go.Proofs.YtbljhodnpddpiaaGreatDoor.less; split <;> omega
theorem St.Fit.did {st : St} {m : Nat} (h : st.Fit (m + 1)) (o : Do) : (st.did o).Fit m := by
  have h1 := h.a1; have h2 := h.few; have h0 := h.a0
  cases o with
  | put a s => exact ⟨less_low h.f1, less_high h.f2, by show 0 ≤ st.acts + 1; omega, by show st.acts + 1 + m ≤ _; omega, by show (st.ps ++ [(a, s)]).length + m ≤ _; rw [List.length_append, List.length_singleton]; omega⟩
  | flush => exact ⟨less_low h.f1, less_high h.f2, by show 0 ≤ st.acts + 1; omega, by show st.acts + 1 + m ≤ _; omega, by show 0 + m ≤ _; omega⟩
theorem St.Fit.does {st : St} {m : Nat} (h : st.Fit (m + 1)) (ok : Bool) (o : Do) : (does (st, ok) o).1.Fit m := by
  cases ok with
  | false => rw [does_off]; exact h.less (by omega)
  | true =>
    by_cases h0 : st.fuse = 0
    · rw [does_cut h0]; exact h.less (by omega)
    · rw [does_on h0]; exact h.did o
theorem St.Fit.doAll {m : Nat} (os : List Do) : ∀ {st : St} (_ : st.Fit (m + os.length)) (ok : Bool), (doAll (st, ok) os).1.Fit m := by
  induction os with
  | nil => intro st h ok; exact h
  | cons o os ih =>
    intro st h ok
    rw [doAll_cons]
    have := h.does (m := m + os.length) ok o
    exact ih this _
/-- What is read of some sectors. -/
def rd (S : List (List UInt8)) (ps : List Dk.Wr) (a k : Nat) : List UInt8 := ((List.range k).map fun i => Dk.readAt S ps (a + i)).flatten
theorem rd_zero (S : List (List UInt8)) (ps : List Dk.Wr) (a : Nat) : rd S ps a 0 = [] := rfl
theorem rd_succ (S : List (List UInt8)) (ps : List Dk.Wr) (a k : Nat) : rd S ps a (k + 1) = rd S ps a k ++ Dk.readAt S ps (a + k) := by
  simp [rd, List.range_succ]
theorem rd_one (S : List (List UInt8)) (ps : List Dk.Wr) (a : Nat) : rd S ps a 1 = Dk.readAt S ps a := by rw [rd_succ, rd_zero]; rfl
attribute [irreducible] rd
end Go.Proofs.YtbljhodnpddpiaaGreatDoor

/- The walks of the journal's pen: it reads, writes and flushes till the disk answers an error. -/
namespace Go.Proofs.YtbljhodnpddpiaaGreatDoor
open Go.RowKit

/-- What has been written is of some blocks (and of new ones) alone. -/
structure Mv (X F F' : List Nat) (w w' : World) : Prop where
  kept : Kept w.heap.size (X ++ F) w w'
  foot : ∀ x ∈ F', x ∈ F ∨ w.heap.size ≤ x
theorem Mv.refl (X F : List Nat) (w : World) : Mv X F F w w := ⟨Kept.refl _ _ _, fun _ h => Or.inl h⟩
theorem Mv.trans {X F F1 F2 : List Nat} {w w1 w2 : World} (h : Mv X F F1 w w1) (k : Mv X F1 F2 w1 w2) : Mv X F F2 w w2 := by
  have hz := h.kept.size
  refine ⟨h.kept.trans (k.kept.mono hz (fun x hx hm => ?_)), fun x hx => ?_⟩
  · rcases List.mem_append.1 hm with h1 | h1
    · exact List.mem_append.2 (Or.inl h1)
    · rcases h.foot x h1 with h2 | h2
      · exact List.mem_append.2 (Or.inr h2)
      · omega
  · rcases k.foot x hx with h1 | h1
    · exact h.foot x h1
    · exact Or.inr (Nat.le_trans hz h1)
theorem Mv.below (X F : List Nat) {w w' : World} (h : Below w.heap.size w w') : Mv X F F w w' := ⟨Kept.of_below h, fun _ h => Or.inl h⟩
theorem Mv.size {X F F' : List Nat} {w w' : World} (h : Mv X F F' w w') : w.heap.size ≤ w'.heap.size := h.kept.size
theorem Mv.more {X Y F F' : List Nat} {w w' : World} (h : Mv X F F' w w') (hs : ∀ x ∈ X, x ∈ Y ∨ w.heap.size ≤ x) : Mv Y F F' w w' := by
  refine ⟨h.kept.mono (Nat.le_refl _) (fun x hx hm => ?_), h.foot⟩
  rcases List.mem_append.1 hm with h1 | h1
  · rcases hs x h1 with h2 | h2
    · exact List.mem_append.2 (Or.inl h2)
    · omega
  · exact List.mem_append.2 (Or.inr h1)
theorem Mv.block {X F F' : List Nat} {w w' : World} (h : Mv X F F' w w') {g : Nat} (hg : g < w.heap.size) (hX : g ∉ X) (hF : g ∉ F) : w'.heap[g]? = w.heap[g]? :=
  h.kept.block g hg (by simp [hX, hF])

theorem kept_two {B : Nat} {a b c : List Nat} {w w1 w2 : World} (h1 : Kept B a w w1) (h2 : Kept w1.heap.size b w1 w2) (hB : B ≤ w1.heap.size) (s1 : ∀ x, x ∈ a → x ∈ c) (s2 : ∀ x, x ∈ b → x ∈ c) : Kept B c w w2 :=
  (h1.mono (Nat.le_refl _) (fun x _ hm => s1 x hm)).trans (h2.mono hB (fun x _ hm => s2 x hm))
/-- A disk's power has gone, if not all that was asked has been done. -/
structure Dsk (d p n : Nat) (F : List Nat) (st : St) (ok : Bool) (w : World) : Prop where
  liv : Live d p F n st.S st.ps 0 w
  pow : PowerAt p (!ok) st.fuse st.acts w
theorem Dsk.keep {d p n : Nat} {F : List Nat} {st : St} {ok : Bool} {w w' : World} (h : Dsk d p n F st ok w) {X : List Nat} (hk : Kept w.heap.size X w w') (hp : p ∉ X) (hF : ∀ x ∈ F, x ∉ X) : Dsk d p n F st ok w' :=
  ⟨h.liv.kept hk hF, h.pow.keep (hk.block p h.pow.lt hp)⟩
theorem Dsk.below {d p n : Nat} {F : List Nat} {st : St} {ok : Bool} {w w' : World} (h : Dsk d p n F st ok w) (hb : Below w.heap.size w w') : Dsk d p n F st ok w' :=
  ⟨h.liv.below hb, h.pow.keep (hb.block p h.pow.lt)⟩
theorem Dsk.pF {d p n : Nat} {F : List Nat} {st : St} {ok : Bool} {w : World} (h : Dsk d p n F st ok w) : p ∉ F := by
  obtain ⟨_, _, _, _, _, _, _, _, h5, _⟩ := h.liv; exact h5
theorem Dsk.dF {d p n : Nat} {F : List Nat} {st : St} {ok : Bool} {w : World} (h : Dsk d p n F st ok w) : d ∈ F := by
  obtain ⟨_, _, _, _, h1, _⟩ := h.liv; exact h1
theorem Dsk.Flt {d p n : Nat} {F : List Nat} {st : St} {ok : Bool} {w : World} (h : Dsk d p n F st ok w) : ∀ x ∈ F, x < w.heap.size := by
  obtain ⟨_, _, _, _, _, _, _, _, _, h6⟩ := h.liv; exact h6
/-- The pen's error: none, or that the power has gone. -/
def Erred (p : Nat) (F : List Nat) (ok : Bool) (ev : Value) (w : World) : Prop := (ok = true ∧ ev = .nilIface) ∨ (ok = false ∧ ∃ g, ev = faultV g ∧ FaultAt g 10 0 w ∧ g ∉ F ∧ g ≠ p)
/-- A pen at block q. -/
structure Pen (d p q n : Nat) (F : List Nat) (st : St) (ok : Bool) (w : World) : Prop where
  dsk : Dsk d p n F st ok w
  pen : ∃ ev, w.heap[q]? = some (.cells [Value.pointer (some ⟨d, 0, none⟩), ev].toArray 113 (0, 0)) ∧ Erred p F ok ev w ∧ (∀ g, ev = faultV g → g ≠ q)
  qF : q ∉ F
  qp : q ≠ p
section
variable {d p q n : Nat} {F : List Nat} {st : St} {ok : Bool} {w : World}
theorem Pen.qlt (h : Pen d p q n F st ok w) : q < w.heap.size := by obtain ⟨ev, h1, _⟩ := h.pen; exact lt_of_heap h1
theorem Pen.below {w' : World} (h : Pen d p q n F st ok w) (hb : Below w.heap.size w w') : Pen d p q n F st ok w' := by
  obtain ⟨ev, h1, h2, h3⟩ := h.pen
  refine ⟨h.dsk.below hb, ⟨ev, (hb.block q h.qlt).trans h1, ?_, h3⟩, h.qF, h.qp⟩
  rcases h2 with h2 | ⟨h2, g, h4, h5, h6⟩
  · exact Or.inl h2
  · exact Or.inr ⟨h2, g, h4, h5.keep (hb.block g h5.lt), h6⟩
theorem Pen.new (h : Dsk d p n F st true w) (hq : w.heap[q]? = some (.cells [Value.pointer (some ⟨d, 0, none⟩), .nilIface].toArray 113 (0, 0))) (hqF : q ∉ F) (hqp : q ≠ p) : Pen d p q n F st true w :=
  ⟨h, ⟨.nilIface, hq, Or.inl ⟨rfl, rfl⟩, fun g e => by cases e⟩, hqF, hqp⟩
theorem Pen.fine (h : Pen d p q n F st true w) : w.heap[q]? = some (.cells [Value.pointer (some ⟨d, 0, none⟩), .nilIface].toArray 113 (0, 0)) := by
  obtain ⟨ev, h1, h2, _⟩ := h.pen
  rcases h2 with ⟨_, rfl⟩ | ⟨h2, _⟩
  · exact h1
  · cases h2
theorem Pen.stuck (h : Pen d p q n F st false w) : ∃ g, w.heap[q]? = some (.cells [Value.pointer (some ⟨d, 0, none⟩), faultV g].toArray 113 (0, 0)) ∧ FaultAt g 10 0 w := by
  obtain ⟨ev, h1, h2, _⟩ := h.pen
  rcases h2 with ⟨h2, _⟩ | ⟨_, g, rfl, h4, _⟩
  · cases h2
  · exact ⟨g, h1, h4⟩
theorem Pen.again (h : Pen d p q n F st true w) {w' : World} (hk : Kept w.heap.size [q] w w') (hq : w'.heap[q]? = some (.cells [Value.pointer (some ⟨d, 0, none⟩), .nilIface].toArray 113 (0, 0))) : Pen d p q n F st true w' :=
  Pen.new (h.dsk.keep hk (by simpa using Ne.symm h.qp) (fun x hx e => h.qF (by simp at e; exact e ▸ hx))) hq h.qF h.qp
end
set_option maxRecDepth 100000 in
set_option maxHeartbeats 1000000 in
theorem flush_stuck (d p q n : Nat) (F : List Nat) (st : St) (w : World) (h : Pen d p q n F st false w) :
    Calls Tryz.prog 78 #[.pointer (some ⟨q, 0, none⟩)] w fun e w' => e = .returned (.tuple #[]) ∧ w = w' := by
  obtain ⟨g, hq, _⟩ := h.stuck
  have c1 : w.cell? ⟨q, 1, none⟩ = some (faultV g) := by rw [cell_of_list hq]; rfl
  unfold faultV at c1
  clear h hq
  go_enter Tryz.func78, Tryz.ntmps78
  go_wp2
  go_end0
  exact ⟨rfl, rfl⟩
theorem Dsk.flush {d p n : Nat} {F : List Nat} {st : St} {w : World} (h : Dsk d p n F st true w) (hf : st.Fit 1) (h0 : st.fuse ≠ 0) :
    Calls Tryz.prog 9 #[.pointer (some ⟨d, 0, none⟩)] w fun e w' => e = .returned .nilIface ∧ Dsk d p n F (st.did .flush) true w' ∧ Kept w.heap.size (p :: F) w w' := by
  refine (Flush_ok d p F n st.S st.ps 0 st.fuse st.acts h0 hf.f1 hf.f2 hf.a0 (by have := hf.a1; omega) w h.liv h.pow).mono ?_
  rintro e w' ⟨rfl, hL, hP, hk⟩
  exact ⟨rfl, ⟨hL, hP⟩, hk⟩
theorem Dsk.put {d p n : Nat} {F : List Nat} {st : St} {w : World} (h : Dsk d p n F st true w) (hf : st.Fit 1) (h0 : st.fuse ≠ 0) (a : Nat) (s : ByteArray) (ha : a < n) (hs : s.size = 64) :
    Calls Tryz.prog 8 #[.pointer (some ⟨d, 0, none⟩), .int .i64 a, .string s] w fun e w' => e = .returned .nilIface ∧ ∃ F', Dsk d p n F' (st.did (.put a s.data.toList)) true w' ∧ (∀ x ∈ F', x ∈ F ∨ w.heap.size ≤ x) ∧ Kept w.heap.size (p :: F) w w' := by
  refine (Write_ok d p F n st.S st.ps 0 st.fuse st.acts a s ha hs (by have := hf.few; omega) h0 hf.f1 hf.f2 hf.a0 (by have := hf.a1; omega) w h.liv h.pow).mono ?_
  rintro e w' ⟨rfl, F', hL, hP, hF, hk⟩
  exact ⟨rfl, F', ⟨hL, hP⟩, hF, hk⟩
theorem set_pen {w : World} {q d : Nat} {ev : Value} (v : Value) (h : w.heap[q]? = some (.cells [Value.pointer (some ⟨d, 0, none⟩), ev].toArray 113 (0, 0))) : (w.setCell ⟨q, 1, none⟩ v).heap[q]? = some (.cells [Value.pointer (some ⟨d, 0, none⟩), v].toArray 113 (0, 0)) := set_list h 1 v
section
variable {d p q n : Nat} {F : List Nat} {st : St} {w : World}
/-- Behind an act that was done. -/
theorem Pen.step {F' : List Nat} {st' : St} {w1 : World} (h : Pen d p q n F st true w) (h1 : Dsk d p n F' st' true w1) (hF : ∀ x ∈ F', x ∈ F ∨ w.heap.size ≤ x) (hk : Kept w.heap.size (p :: F) w w1) :
    Pen d p q n F' st' true (w1.setCell ⟨q, 1, none⟩ .nilIface) ∧ Mv [q, p] F F' w (w1.setCell ⟨q, 1, none⟩ .nilIface) := by
  have hq1 : w1.heap[q]? = some (.cells [Value.pointer (some ⟨d, 0, none⟩), .nilIface].toArray 113 (0, 0)) := (hk.block q h.qlt (by simp [h.qp, h.qF])).trans h.fine
  have hqF' : q ∉ F' := fun hm => by
    rcases hF q hm with h2 | h2
    · exact h.qF h2
    · have := h.qlt; omega
  have hk2 : Kept w1.heap.size [q] w1 (w1.setCell ⟨q, 1, none⟩ .nilIface) := (Kept.refl _ _ _).setCell (p := ⟨q, 1, none⟩) (by simp) _
  refine ⟨Pen.new (h1.keep hk2 (by simpa using Ne.symm h.qp) (fun x hx e => hqF' (by simp at e; exact e ▸ hx))) (set_pen _ hq1) hqF' h.qp, ⟨?_, hF⟩⟩
  exact kept_two hk hk2 hk.size (fun x hm => by rcases List.mem_cons.1 hm with rfl | hm <;> simp [*]) (fun x hm => by simp at hm; simp [hm])
/-- Behind one that was cut off. -/
theorem Pen.cut {g : Nat} {w1 : World} (h : Pen d p q n F st true w) (hz : st.fuse = 0) (hg : w.heap.size ≤ g) (hf : FaultAt g 10 0 w1) (hp : PowerAt p true 0 st.acts w1) (hk : Kept w.heap.size [p] w w1) :
    Pen d p q n F st false (w1.setCell ⟨q, 1, none⟩ (faultV g)) ∧ Mv [q, p] F F w (w1.setCell ⟨q, 1, none⟩ (faultV g)) := by
  have hq1 : w1.heap[q]? = some (.cells [Value.pointer (some ⟨d, 0, none⟩), .nilIface].toArray 113 (0, 0)) := (hk.block q h.qlt (by simp [h.qp])).trans h.fine
  have hgq : g ≠ q := by have := h.qlt; omega
  have hk2 : Kept w1.heap.size [q] w1 (w1.setCell ⟨q, 1, none⟩ (faultV g)) := (Kept.refl _ _ _).setCell (p := ⟨q, 1, none⟩) (by simp) _
  have hL : Live d p F n st.S st.ps 0 w1 := h.dsk.liv.kept hk (fun x hx e => h.dsk.pF (by simp at e; exact e ▸ hx))
  have h1 : Dsk d p n F st false w1 := ⟨hL, by rw [hz]; exact hp⟩
  refine ⟨⟨h1.keep hk2 (by simpa using Ne.symm h.qp) (fun x hx e => h.qF (by simp at e; exact e ▸ hx)), ⟨faultV g, set_pen _ hq1, Or.inr ⟨rfl, g, rfl, hf.keep (hk2.block g hf.lt (by simpa using hgq)), fun hm => ?_, ?_⟩, fun g' e => ?_⟩, h.qF, h.qp⟩, ⟨?_, fun _ hx => Or.inl hx⟩⟩
  · have := h.dsk.Flt g hm; omega
  · have := h.dsk.pow.lt; omega
  · unfold faultV at e; injection e with _ e; injection e with e; injection e with e; injection e with e; rw [← e]; exact hgq
  · exact kept_two hk hk2 hk.size (fun x hm => by simp at hm; simp [hm]) (fun x hm => by simp at hm; simp [hm])
end
set_option maxRecDepth 100000 in
set_option maxHeartbeats 1000000 in
theorem flush_on (d p q n : Nat) (F : List Nat) (st : St) (w : World) (h : Pen d p q n F st true w) (hf : st.Fit 1) (h0 : st.fuse ≠ 0) :
    Calls Tryz.prog 78 #[.pointer (some ⟨q, 0, none⟩)] w fun e w' => e = .returned (.tuple #[]) ∧ Pen d p q n F (st.did .flush) true w' ∧ Mv [q, p] F F w w' := by
  have hq := h.fine
  have c0 : w.cell? ⟨q, 0, none⟩ = some (.pointer (some ⟨d, 0, none⟩)) := by rw [cell_of_list hq]; rfl
  have c1 : w.cell? ⟨q, 1, none⟩ = some .nilIface := by rw [cell_of_list hq]; rfl
  have H := Lib.hid h
  clear h hq
  go_enter Tryz.func78, Tryz.ntmps78
  go_wp2_with fail
  refine (H.out.dsk.flush hf h0).mono ?_
  rintro e w1 ⟨rfl, h1, hk1⟩
  have hq1 : w1.heap[q]? = some (.cells [Value.pointer (some ⟨d, 0, none⟩), .nilIface].toArray 113 (0, 0)) := (hk1.block q H.out.qlt (by simp [H.out.qp, H.out.qF])).trans H.out.fine
  have f1 := free_of_list hq1
  have d1 : w1.cell? ⟨q, 1, none⟩ = some .nilIface := by rw [cell_of_list hq1]; rfl
  have HS := Lib.hid (H.out.step h1 (fun _ hx => Or.inl hx) hk1)
  clear h1 hk1 hq1
  go_wp2_with fail
  go_end0
  exact ⟨rfl, HS.out⟩
set_option maxRecDepth 100000 in
set_option maxHeartbeats 1000000 in
theorem flush_cut (d p q n : Nat) (F : List Nat) (st : St) (w : World) (h : Pen d p q n F st true w) (h0 : st.fuse = 0) :
    Calls Tryz.prog 78 #[.pointer (some ⟨q, 0, none⟩)] w fun e w' => e = .returned (.tuple #[]) ∧ Pen d p q n F st false w' ∧ Mv [q, p] F F w w' := by
  have hq := h.fine
  have c0 : w.cell? ⟨q, 0, none⟩ = some (.pointer (some ⟨d, 0, none⟩)) := by rw [cell_of_list hq]; rfl
  have c1 : w.cell? ⟨q, 1, none⟩ = some .nilIface := by rw [cell_of_list hq]; rfl
  have H := Lib.hid h
  clear h hq
  go_enter Tryz.func78, Tryz.ntmps78
  go_wp2_with fail
  refine (Flush_cut d p F n st.S st.ps 0 st.acts _ H.out.dsk.liv (by have := H.out.dsk.pow; rw [h0] at this; exact this)).mono ?_
  rintro e w1 ⟨g, hg, rfl, hfa, hp1, hk1⟩
  have hq1 : w1.heap[q]? = some (.cells [Value.pointer (some ⟨d, 0, none⟩), .nilIface].toArray 113 (0, 0)) := (hk1.block q H.out.qlt (by simp [H.out.qp])).trans H.out.fine
  have f1 := free_of_list hq1
  have d1 : w1.cell? ⟨q, 1, none⟩ = some .nilIface := by rw [cell_of_list hq1]; rfl
  have HS := Lib.hid (H.out.cut h0 hg hfa hp1 hk1)
  clear hfa hp1 hk1 hq1
  go_wp2_with fail
  go_end0
  exact ⟨rfl, HS.out⟩
theorem flush_any (d p q n : Nat) (F : List Nat) (st : St) (ok : Bool) (w : World) (h : Pen d p q n F st ok w) (hf : st.Fit 1) :
    Calls Tryz.prog 78 #[.pointer (some ⟨q, 0, none⟩)] w fun e w' => e = .returned (.tuple #[]) ∧ Pen d p q n F (does (st, ok) .flush).1 (does (st, ok) .flush).2 w' ∧ Mv [q, p] F F w w' := by
  cases ok with
  | false =>
    refine (flush_stuck d p q n F st w h).mono ?_
    rintro e w' ⟨rfl, rfl⟩
    exact ⟨rfl, h, Mv.refl _ _ _⟩
  | true =>
    by_cases h0 : st.fuse = 0
    · rw [does_cut h0]; exact flush_cut d p q n F st w h h0
    · rw [does_on h0]; exact flush_on d p q n F st w h hf h0
end Go.Proofs.YtbljhodnpddpiaaGreatDoor

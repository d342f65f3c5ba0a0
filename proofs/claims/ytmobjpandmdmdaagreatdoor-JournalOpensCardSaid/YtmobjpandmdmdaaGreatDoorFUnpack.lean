/- The walks of records that are taken apart. -/
import Derived.Test.YtmobjpandmdmdaaGreatDoorFPack
namespace Go.Proofs.YtmobjpandmdmdaaGreatDoor
open Go.RowKit

theorem run_index_byte_0 {P : Program} (w : World) (t : TypeId) (s : ByteArray) (k : IntKind) (h : P.underlying t = some .string) (hi : 0 < s.size) :
    (Instr.index t (.string s) (.int k 0)).run P w = .ok (.int .u8 ((strAt s 0).toNat : Int)) w := run_index_byte w t s k 0 h hi
attribute [local go_sem high] run_index_byte_0
theorem is_one {c : UInt8} (h : c = 1) : ((c.toNat : Int) != 1) = false := by rw [h]; rfl
theorem not_one {c : UInt8} (h : c ≠ 1) : ((c.toNat : Int) != 1) = true := by
  rw [bne_iff_ne]; intro e; exact h (UInt8.toNat.inj (by rw [show (1 : UInt8).toNat = 1 from rfl]; omega))
set_option maxHeartbeats 1000000 in
theorem Unpack_mark (s : ByteArray) (e n : Int) (hs : 64 ≤ s.size) (h : strAt s 0 ≠ 1) (w : World) :
    Calls Tryz.prog 77 #[.string s, .int .i64 e, .int .i64 n] w (Refused 20 0 (fun v => .tuple #[.string ⟨#[]⟩, .int .i64 0, v]) w) := by
  have hb := not_one h
  have h0 : 0 < s.size := by omega
  clear h
  go_enter Tryz.func77, Tryz.ntmps77
  go_wp2_with (go_at_call 86; refine (fault_is 20 0 _).mono ?_; rintro r w' ⟨g, hg, rfl, hf, hb2⟩; have HF := Lib.hid hf; have HB := Lib.hid hb2; clear hf hb2)
  go_ret3
  exact ⟨g, hg, rfl, HF.out, HB.out⟩
/-- What stands at the head: the mark and the length. -/
structure Looks (s : ByteArray) (m : Nat) : Prop where
  size : 64 ≤ s.size
  most : s.size ≤ 281474976710656
  mark : strAt s 0 = 1
  num : Fr.num ((s.data.toList.take 8).drop 4) = m
  few : m ≤ 60000
theorem Looks.number {s : ByteArray} {m : Nat} (h : Looks s m) (w : World) : Calls Tryz.prog 87 #[.string (s.extract 4 8)] w fun e w' => e = .returned (.int .u64 m) ∧ w = w' := by
  have := numberOf_any (s.extract 4 8) (by rw [← size_toList, extract_list, List.length_drop, List.length_take]; omega) w
  rw [extract_list, h.num] at this
  exact this
set_option maxRecDepth 100000 in
set_option maxHeartbeats 1000000 in
theorem Unpack_head (s : ByteArray) (e n m : Nat) (he : e ≤ 4611686018427387904) (hn : n ≤ 4294967295) (h : Looks s m) (hh : (s.extract 4 20).data.toList ≠ Fr.headOf e n m) (w : World) :
    Calls Tryz.prog 77 #[.string s, .int .i64 e, .int .i64 n] w (Refused 20 0 (fun v => .tuple #[.string ⟨#[]⟩, .int .i64 0, v]) w) := by
  have hb := is_one h.mark
  have hs := h.size
  have h0 : 0 < s.size := by omega
  have hm := h.few
  obtain ⟨q, hq⟩ : ∃ q, q = bs (Fr.headOf e n m) := ⟨_, rfl⟩
  have hne : ((s.extract 4 20).toList == q.toList) = false := by rw [ByteArray.toList_eq, ByteArray.toList_eq, beq_eq_false_iff_ne, hq, bs_list]; exact hh
  have HQ := Lib.hid hq
  have HN := Lib.hid (fun v : World => h.number v)
  clear h hq hh
  go_enter Tryz.func77, Tryz.ntmps77
  go_wp2_with (first | (go_at_call 86; refine (fault_is 20 0 _).mono ?_; rintro r w' ⟨g, hg, rfl, hf, hb2⟩; have HF := Lib.hid hf; have HB := Lib.hid hb2; clear hf hb2) | (go_at_call 87; refine (HN.out _).mono ?_; rintro r w' ⟨rfl, rfl⟩) | (go_at_call 88; refine (headOf_ok e n m he hn hm _).mono ?_; rintro r wa ⟨rfl, hb⟩; rw [← HQ.out]; have HBA := Lib.hid hb; clear hb) | (go_at_call 39; refine (errorsIs_nil _ _).mono ?_; rintro r w' ⟨rfl, rfl⟩))
  go_ret3
  exact ⟨g, Nat.le_trans HBA.out.size hg, rfl, HF.out, HBA.out.trans (HB.out.mono HBA.out.size)⟩
set_option maxRecDepth 100000 in
set_option maxHeartbeats 1000000 in
theorem Unpack_sum (s : ByteArray) (e n m : Nat) (p : List UInt8) (he : e ≤ 4611686018427387904) (hn : n ≤ 4294967295) (h : Looks s m) (hh : (s.extract 4 20).data.toList = Fr.headOf e n m) (hw : Fr.whole m ≤ s.size)
    (hp : (s.extract 24 (24 + m)).data.toList = p) (hx : (s.extract 20 24).data.toList ≠ Fr.sumOf (Fr.headOf e n m) p) (w : World) :
    Calls Tryz.prog 77 #[.string s, .int .i64 e, .int .i64 n] w (Refused 20 0 (fun v => .tuple #[.string ⟨#[]⟩, .int .i64 0, v]) w) := by
  have hb := is_one h.mark
  have hs := h.size
  have h0 : 0 < s.size := by omega
  have hm := h.few
  have hwm := Fr.whole_ge m
  obtain ⟨W, hW⟩ : ∃ W, W = Fr.whole m := ⟨_, rfl⟩
  rw [← hW] at hw hwm
  obtain ⟨q, hq⟩ : ∃ q, q = bs (Fr.headOf e n m) := ⟨_, rfl⟩
  have hqz : q.size ≤ 60000 := by rw [hq, bs_size, Fr.length_headOf]; omega
  have hne : ((s.extract 4 20).toList == q.toList) = true := by rw [ByteArray.toList_eq, ByteArray.toList_eq, beq_iff_eq, hq, bs_list]; exact hh
  obtain ⟨x, hxx⟩ : ∃ x, x = bs (Fr.sumOf (Fr.headOf e n m) p) := ⟨_, rfl⟩
  have hne2 : ((s.extract 20 24).toList == x.toList) = false := by rw [ByteArray.toList_eq, ByteArray.toList_eq, beq_eq_false_iff_ne, hxx, bs_list]; exact hx
  have hpz : (s.extract 24 (24 + m)).size ≤ 60000 := by rw [← size_toList, extract_list, List.length_drop, List.length_take]; omega
  have CS := Lib.hid (fun v : World => sumOf_any q (s.extract 24 (24 + m)) hqz hpz v)
  rw [hp, hq, bs_list, ← hxx, ← hq] at CS
  have HQ := Lib.hid hq
  have HW := Lib.hid hW
  have HN := Lib.hid (fun v : World => h.number v)
  clear h hq hh hW hx hp hxx hqz hpz
  go_enter Tryz.func77, Tryz.ntmps77
  go_wp2_with (first | (go_at_call 87; refine (HN.out _).mono ?_; rintro r w' ⟨rfl, rfl⟩) | (go_at_call 88; refine (headOf_ok e n m he hn hm _).mono ?_; rintro r wa ⟨rfl, hb⟩; rw [← HQ.out]; have HBA := Lib.hid hb; clear hb) | (go_at_call 39; refine (errorsIs_nil _ _).mono ?_; rintro r w' ⟨rfl, rfl⟩) | (go_at_call 89; refine (whole_any m (by omega) _).mono ?_; rintro r w' ⟨rfl, rfl⟩; rw [← HW.out]))
  have i20 : (24 : Int) ≤ (s.size : Int) := by omega
  go_region_law (first | (go_simp; go_at_call 90; (with_reducible refine (CS.out _).mono ?_); rintro r w4 ⟨rfl, h4⟩; have B4 := Lib.hid (HBA.out.drew.trans (h4.mono HBA.out.size)); clear h4) | fail)
  all_goals
    go_wp2_with (go_at_call 86; refine (fault_is 20 0 _).mono ?_; rintro r w' ⟨g, hg, rfl, hf, hb2⟩; have HF := Lib.hid hf; have HB := Lib.hid hb2; clear hf hb2)
    go_ret3
    exact ⟨g, Nat.le_trans B4.out.size hg, rfl, HF.out, B4.out.trans (HB.out.mono B4.out.size)⟩
set_option maxRecDepth 100000 in
set_option maxHeartbeats 1000000 in
theorem Unpack_ok (s : ByteArray) (e n m : Nat) (p : List UInt8) (he : e ≤ 4611686018427387904) (hn : n ≤ 4294967295) (h : Looks s m) (hh : (s.extract 4 20).data.toList = Fr.headOf e n m) (hw : Fr.whole m ≤ s.size)
    (hp : (s.extract 24 (24 + m)).data.toList = p) (hx : (s.extract 20 24).data.toList = Fr.sumOf (Fr.headOf e n m) p) (w : World) :
    Calls Tryz.prog 77 #[.string s, .int .i64 e, .int .i64 n] w fun r w' => r = .returned (.tuple #[.string (bs p), .int .i64 (Fr.whole m), .nilIface]) ∧ Below w.heap.size w w' := by
  have hb := is_one h.mark
  have hs := h.size
  have h0 : 0 < s.size := by omega
  have hm := h.few
  have hwm := Fr.whole_ge m
  obtain ⟨W, hW⟩ : ∃ W, W = Fr.whole m := ⟨_, rfl⟩
  rw [← hW] at hw hwm
  obtain ⟨q, hq⟩ : ∃ q, q = bs (Fr.headOf e n m) := ⟨_, rfl⟩
  have hqz : q.size ≤ 60000 := by rw [hq, bs_size, Fr.length_headOf]; omega
  have hne : ((s.extract 4 20).toList == q.toList) = true := by rw [ByteArray.toList_eq, ByteArray.toList_eq, beq_iff_eq, hq, bs_list]; exact hh
  obtain ⟨x, hxx⟩ : ∃ x, x = bs (Fr.sumOf (Fr.headOf e n m) p) := ⟨_, rfl⟩
  have hne2 : ((s.extract 20 24).toList == x.toList) = true := by rw [ByteArray.toList_eq, ByteArray.toList_eq, beq_iff_eq, hxx, bs_list]; exact hx
  have hpz : (s.extract 24 (24 + m)).size ≤ 60000 := by rw [← size_toList, extract_list, List.length_drop, List.length_take]; omega
  have CS := Lib.hid (fun v : World => sumOf_any q (s.extract 24 (24 + m)) hqz hpz v)
  rw [hp, hq, bs_list, ← hxx, ← hq] at CS
  have HP := Lib.hid (bs_of hp)
  rw [hxx] at hne2
  rw [← hxx] at hne2
  have HPZ := Lib.hid hpz
  have HQ := Lib.hid hq
  have HW := Lib.hid hW
  have HN := Lib.hid (fun v : World => h.number v)
  clear h hq hh hW hx hp hxx hqz hpz
  go_enter Tryz.func77, Tryz.ntmps77
  go_wp2_with (first | (go_at_call 87; refine (HN.out _).mono ?_; rintro r w' ⟨rfl, rfl⟩) | (go_at_call 88; refine (headOf_ok e n m he hn hm _).mono ?_; rintro r wa ⟨rfl, hb⟩; rw [← HQ.out]; have HBA := Lib.hid hb; clear hb) | (go_at_call 39; refine (errorsIs_nil _ _).mono ?_; rintro r w' ⟨rfl, rfl⟩) | (go_at_call 89; refine (whole_any m (by omega) _).mono ?_; rintro r w' ⟨rfl, rfl⟩; rw [← HW.out]))
  have i20 : (24 : Int) ≤ (s.size : Int) := by omega
  go_region_law (first | (go_simp; go_at_call 90; (with_reducible refine (CS.out _).mono ?_); rintro r w4 ⟨rfl, h4⟩; have B4 := Lib.hid (HBA.out.drew.trans (h4.mono HBA.out.size)); clear h4) | fail)
  all_goals
    go_wp2_with (first | (go_at_call 91; refine (Clone_any _ _ (by have := HPZ.out; omega)).mono ?_; rintro r w5 ⟨rfl, hb⟩; rw [HP.out]; have B5 := Lib.hid (B4.out.trans (hb.mono B4.out.size)); clear hb) | (go_at_call 89; refine (whole_any m (by omega) _).mono ?_; rintro r w' ⟨rfl, rfl⟩; rw [← HW.out]))
    go_ret3
    exact ⟨by rw [← HW.out]; rfl, B5.out⟩
end Go.Proofs.YtmobjpandmdmdaaGreatDoor

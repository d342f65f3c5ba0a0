/- The walks of the document's own record. -/
import Derived.Test.YtmobjpandmdmdaaGreatDoorFLaw1
namespace Go.Proofs.YtmobjpandmdmdaaGreatDoor
open Go.RowKit

theorem f_b3 (n : Nat) : (n : Int) / 16777216 % 256 = ((Fr.byteAt n 3).toNat : Int) := byteAt_mod n 3
theorem f_b2 (n : Nat) : (n : Int) / 65536 % 256 = ((Fr.byteAt n 2).toNat : Int) := byteAt_mod n 2
theorem f_b1 (n : Nat) : (n : Int) / 256 % 256 = ((Fr.byteAt n 1).toNat : Int) := byteAt_mod n 1
theorem f_b0 (n : Nat) : (n : Int) % 256 = ((Fr.byteAt n 0).toNat : Int) := by
  have := byteAt_mod n 0
  rw [Nat.mul_zero, Int.pow_zero, Int.ediv_one] at this
  exact this
theorem be4 (n : Nat) : Fr.be 4 n = [Fr.byteAt n 3, Fr.byteAt n 2, Fr.byteAt n 1, Fr.byteAt n 0] := by rw [Fr.be_succ, Fr.be_succ, Fr.be_succ, Fr.be_succ, Fr.be_zero]
theorem byteAt_shift (n k : Nat) : Fr.byteAt (n / 4294967296) k = Fr.byteAt n (k + 4) := by
  rw [Fr.byteAt_eq, Fr.byteAt_eq, Nat.div_div_eq_div_mul, show (4294967296 : Nat) = 2 ^ 32 from rfl, ← Nat.pow_add]
  congr 3; omega
theorem be8 (n : Nat) : Fr.be 8 n = Fr.be 4 (n / 4294967296) ++ Fr.be 4 n := by
  rw [be4, be4, byteAt_shift, byteAt_shift, byteAt_shift, byteAt_shift]
  rw [Fr.be_succ, Fr.be_succ, Fr.be_succ, Fr.be_succ, Fr.be_succ, Fr.be_succ, Fr.be_succ, Fr.be_succ, Fr.be_zero]; rfl
attribute [local go_sem high] f_b3 f_b2 f_b1 f_b0
attribute [local go_sem] Fr.length_zero bs_size Fr.length_be Fr.length_headOf Fr.length_sumOf
set_option maxHeartbeats 1000000 in
theorem rU32_any (n : Nat) (w : World) : Calls Tryz.prog 25 #[.int .i64 n] w fun e w' => e = .returned (.string (bs (Fr.be 4 n))) ∧ Below w.heap.size w w' := by
  have hr : (w.alloc (.cells #[Value.int .u8 (Fr.byteAt n 3).toNat, .int .u8 (Fr.byteAt n 2).toNat, .int .u8 (Fr.byteAt n 1).toNat, .int .u8 (Fr.byteAt n 0).toNat] 5)).rangeAt w.heap.size 0 ((Fr.be 4 n).map u8v) :=
    range_of_list (t := 5) (fr := (0, 0)) (by rw [be4]; exact heap_alloc_new _ _)
  have HR := Lib.hid hr
  have HL := Lib.hid (Fr.length_be 4 n)
  clear hr
  go_enter Tryz.func25, Tryz.ntmps25
  go_wp2_with (refine wpList_bytes_string rfl 57 9 (.tmp 14) rfl 5 w.heap.size 0 4 4 rfl (Fr.be 4 n) HL.out Tryz.underlying57 Tryz.underlying5 Tryz.underlying9 HR.out ?_; go_frame)
  go_ret
  exact ⟨by rw [← bs_eq]; rfl, (Below.refl _ _).alloc (Nat.le_refl _) _⟩
set_option maxHeartbeats 1000000 in
theorem rU64_any (n : Nat) (hn : n < 9223372036854775808) (w : World) : Calls Tryz.prog 26 #[.int .i64 n] w fun e w' => e = .returned (.string (bs (Fr.be 8 n))) ∧ Below w.heap.size w w' := by
  obtain ⟨m, hm⟩ : ∃ m, m = n / 4294967296 := ⟨_, rfl⟩
  have hm1 : (n : Int) / 4294967296 = (m : Int) := by omega
  have hm2 : m < 9223372036854775808 := by omega
  have HE := Lib.hid (show bs (Fr.be 8 n) = bs (Fr.be 4 m) ++ bs (Fr.be 4 n) by rw [be8, hm, bs_append])
  have HB := Lib.hid (Below.refl w.heap.size w)
  clear hm
  go_enter Tryz.func26, Tryz.ntmps26
  go_wp2_with (go_at_call 25; (first | with_reducible refine (rU32_any m _).mono ?_ | with_reducible refine (rU32_any n _).mono ?_); rintro r w' ⟨rfl, hb⟩; replace HB := Lib.hid (HB.out.trans (hb.mono HB.out.size)); clear hb)
  go_ret
  exact ⟨by rw [HE.out]; rfl, HB.out⟩
theorem rSectors_any (n : Nat) (hn : n ≤ 9000000000000) (w : World) : Calls Tryz.prog 28 #[.int .i64 n] w fun r w' => r = .returned (.int .i64 ((n + 63) / 64 : Nat)) ∧ w = w' := by
  go_enter Tryz.func28, Tryz.ntmps28
  go_wp2
  go_ret
  exact ⟨ret_int (by omega), rfl⟩
set_option maxRecDepth 100000 in
set_option maxHeartbeats 2000000 in
theorem rPack_ok (e n : Nat) (p : ByteArray) (he : e ≤ 4611686018427387904) (hn : n ≤ 4294967295) (hp : p.size ≤ 60000) (w : World) :
    Calls Tryz.prog 6 #[.int .i64 e, .int .i64 n, .string p] w fun r w' => r = .returned (.tuple #[.string (bs (Fr.record e n p.data.toList)), .int .i64 0]) ∧ Below w.heap.size w w' := by
  obtain ⟨q, hq⟩ : ∃ q, q = bs (Fr.headOf e n p.size) := ⟨_, rfl⟩
  have hqq : bs (Fr.be 4 p.size) ++ bs (Fr.be 4 n) ++ bs (Fr.be 8 e) = q := by rw [bs_append, bs_append, Fr.headOf_eq, hq]
  have hqz : q.size = 16 := by rw [hq, bs_size, Fr.length_headOf]
  obtain ⟨X, hX⟩ : ∃ X, X = Fr.sum (q ++ p).data.toList := ⟨_, rfl⟩
  have hXs : Fr.be 4 X.toNat = Fr.sumOf (Fr.headOf e n p.size) p.data.toList := by
    rw [Fr.sumOf, hX, Fr.sum_append, show (q ++ p).data.toList = q.data.toList ++ p.data.toList by simp, hq, bs_list]
  obtain ⟨x, hx⟩ : ∃ x, x = bs (Fr.be 4 X.toNat) := ⟨_, rfl⟩
  have hxz : x.size = 4 := by rw [hx, bs_size, Fr.length_be]
  obtain ⟨F, hF⟩ : ∃ F, (⟨#[1, 0, 0, 0]⟩ : ByteArray) ++ q ++ x ++ p = F := ⟨_, rfl⟩
  obtain ⟨N0, hN0⟩ : ∃ N0, N0 = 24 + p.size := ⟨_, rfl⟩
  have hFs : F.size = N0 := by rw [← hF, ByteArray.size_append, ByteArray.size_append, ByteArray.size_append, hqz, hxz, hN0]; rfl
  obtain ⟨M, hM⟩ : ∃ M, M = (N0 + 63) / 64 := ⟨_, rfl⟩
  obtain ⟨Z, hZ⟩ : ∃ Z, Z = M * 64 - N0 := ⟨_, rfl⟩
  have hZi : (M : Int) * 64 - (N0 : Int) = (Z : Int) := by omega
  have hZ2 : Z ≤ 64 := by omega
  have hM2 : M ≤ 10000 := by omega
  have hN2 : N0 ≤ 60024 := by omega
  have hR : F ++ bs (Fr.zero Z) = bs (Fr.record e n p.data.toList) := by
    refine bs_of ?_
    have e1 : Fr.whole p.data.toList.length - 24 - p.data.toList.length = Z := by rw [size_toList]; unfold Fr.whole; omega
    rw [Fr.record, e1, size_toList, ← hXs, show (F ++ bs (Fr.zero Z)).data.toList = F.data.toList ++ Fr.zero Z by simp [bs_list], ← hF, hx, hq]
    simp [bs_list]
  have hXlt : X.toNat < 4294967296 := X.toNat_lt
  have HQ := Lib.hid hqq
  have HX := Lib.hid hX
  have Hx := Lib.hid hx
  have HM := Lib.hid hM
  have HRR := Lib.hid hR
  have HB := Lib.hid (Below.refl w.heap.size w)
  have HLZ := Lib.hid (Fr.length_zero Z)
  have CS := Lib.hid (fun v : World => rSum_any (q ++ p) (by rw [ByteArray.size_append]; omega) v)
  rw [← hX] at CS
  clear hq hX hXs hx hN0 hM hZ hR
  go_enter Tryz.func6, Tryz.ntmps6
  go_wp2_with (first | (go_at_call 25; (first | with_reducible refine (rU32_any p.size _).mono ?_ | with_reducible refine (rU32_any n _).mono ?_ | (with_reducible refine (rU32_any X.toNat _).mono ?_; rw [← Hx.out])); rintro r w' ⟨rfl, hb⟩; replace HB := Lib.hid (HB.out.trans (hb.mono HB.out.size)); clear hb) | (go_at_call 26; refine (rU64_any e (by omega) _).mono ?_; rintro r w' ⟨rfl, hb⟩; replace HB := Lib.hid (HB.out.trans (hb.mono HB.out.size)); clear hb) | (go_at_call 27; refine (CS.out _).mono ?_; rintro r w' ⟨rfl, rfl⟩) | (go_at_call 28; refine (rSectors_any N0 (by omega) _).mono ?_; rw [← HM.out]; rintro r w' ⟨rfl, rfl⟩) | (refine wpList_make_zb rfl (.tmp 56) (.tmp 56) rfl Z (by omega) rfl rfl ?_; intro w7 h7 hb7 hs7; replace HB := Lib.hid (HB.out.trans (hb7.out.mono HB.out.size)); have R7 := Lib.hid (range_of_list h7.out); clear h7 hb7; go_frame) | (refine wpList_bytes_string rfl 57 9 (.tmp 57) rfl 5 _ 0 Z Z rfl (Fr.zero Z) HLZ.out Tryz.underlying57 Tryz.underlying5 Tryz.underlying9 R7.out ?_; rw [bs_eq (Fr.zero Z)]; go_frame))
  go_ret2
  exact ⟨by rw [← HRR.out]; rfl, HB.out⟩
theorem rPack_bad (e n : Int) (p : ByteArray) (h : BadHead e n p.size) (w : World) :
    Calls Tryz.prog 6 #[.int .i64 e, .int .i64 n, .string p] w fun r w' => r = .returned (.tuple #[.string ⟨#[]⟩, .int .i64 1]) ∧ w = w' := by
  unfold BadHead at h
  by_cases h1 : e < 0
  · clear h
    go_enter Tryz.func6, Tryz.ntmps6
    go_wp2_with fail
    go_ret2
    exact ⟨rfl, rfl⟩
  by_cases h2 : 4611686018427387904 < e
  · clear h
    go_enter Tryz.func6, Tryz.ntmps6
    go_wp2_with fail
    go_ret2
    exact ⟨rfl, rfl⟩
  by_cases h3 : n < 0
  · clear h
    go_enter Tryz.func6, Tryz.ntmps6
    go_wp2_with fail
    go_ret2
    exact ⟨rfl, rfl⟩
  by_cases h4 : 4294967295 < n
  · clear h
    go_enter Tryz.func6, Tryz.ntmps6
    go_wp2_with fail
    go_ret2
    exact ⟨rfl, rfl⟩
  have h5 : 60000 < (p.size : Int) := by omega
  clear h
  go_enter Tryz.func6, Tryz.ntmps6
  go_wp2_with fail
  go_ret2
  exact ⟨rfl, rfl⟩
end Go.Proofs.YtmobjpandmdmdaaGreatDoor

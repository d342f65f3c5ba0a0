/- The walks of the document's own powers of 0 and logs. -/
import Derived.Test.YteghbjcahggkeaaGRef2
namespace Go.Proofs.Yteghbjcahggkeaa
open Go.RowKit

set_option maxRecDepth 20000 in
set_option maxHeartbeats 1000000 in
theorem rPow_any (a : UInt8) (n : Int) (w : World) : Calls Try.prog 18 #[.int .u8 a.toNat, .int .i64 n] w fun e w' => e = .returned (.int .u8 (pow a n).toNat) ∧ w = w' := by
  by_cases ha : a = 0
  · have hb := u8_eq0 ha
    by_cases hn : n = 0
    · have HP : Hid ((pow a n).toNat = 1) := Lib.hid (by rw [ha, hn, pow_00]; rfl)
      have hb2 : (n == 0) = true := by simpa using hn
      clear hn ha
      go_enter Try.func18, Try.ntmps18
      go_wp2_with fail
      go_ret
      exact ⟨ret_int (by rw [HP.out]; rfl), rfl⟩
    · have HP : Hid ((pow a n).toNat = 0) := Lib.hid (by rw [ha, pow_0 n hn]; rfl)
      have hb2 : (n == 0) = false := by simpa using hn
      clear hn ha
      go_enter Try.func18, Try.ntmps18
      go_wp2_with fail
      go_ret
      exact ⟨ret_int (by rw [HP.out]; rfl), rfl⟩
  · exact rPow_nz a ha n w
theorem L_zero : L 0 = 0 := by unfold L; decide +kernel
theorem rMul_two (a : UInt8) (w : World) : Calls Try.prog 16 #[.int .u8 a.toNat, .int .u8 2] w fun e w' => e = .returned (.int .u8 (tm a 2).toNat) ∧ w = w' := rMul_any a 2 w
theorem E_succ (n : Nat) : tm (E n) 2 = E (n + 1) := by rw [← E_one, tm_E]
theorem eq_u8 {a b : UInt8} (h : a = b) : ((a.toNat : Int) == (b.toNat : Int)) = true := by rw [h]; simp
theorem ne_u8 {a b : UInt8} (h : a ≠ b) : ((a.toNat : Int) == (b.toNat : Int)) = false := by
  have : a.toNat ≠ b.toNat := fun e => h (UInt8.toNat_inj.1 e)
  simp; omega
set_option maxRecDepth 20000 in
set_option maxHeartbeats 1000000 in
theorem rLog_nz (a : UInt8) (ha : a ≠ 0) (w : World) : Calls Try.prog 13 #[.int .u8 a.toNat] w fun e w' => e = .returned (.tuple #[.int .i64 (L a), .bool true]) ∧ w = w' := by
  have HL := Lib.hid (L_lt a ha)
  have HE := Lib.hid (E_L a ha)
  have HA := Lib.hid ha
  clear ha
  go_enter Try.func13, Try.ntmps13
  go_wp2_with fail
  go_loopw [4, 5] (fun p i wr => ∃ (j : Nat), j ≤ L a ∧ i = .int .i64 j ∧ p = .int .u8 (E j).toNat ∧ wr = w) (fun _ i _ => 255 - (intOf i).toNat)
  case atStart => exact ⟨0, by omega, rfl, by rw [E_zero]; rfl, rfl⟩
  case round =>
    obtain ⟨j, hj, rfl, rfl, rfl⟩ := hrel
    have hlt : j < 255 := by have := HL.out; omega
    by_cases hx : j = L a
    · have hb := eq_u8 (by rw [hx]; exact HE.out : E j = a)
      have HX := Lib.hid hx
      clear hx hj
      go_wp2_with fail
      go_ret2
      exact ⟨ret_int_bool (by rw [HX.out]) rfl, rfl⟩
    · have hb := ne_u8 (fun h => hx (by rw [← h, L_E]; omega) : E j ≠ a)
      have H2 := Lib.hid (show j + 1 ≤ L a by omega)
      have HS := Lib.hid (E_succ j)
      clear hx hj
      go_wp2_with fail
      with_reducible refine (rMul_two _ _).mono ?_
      rintro e w' ⟨rfl, rfl⟩
      go_wp2_with fail
      go_roundw
      case rel => exact ⟨j + 1, H2.out, by go_num, by rw [HS.out], trivial⟩
      case measure => simp [intOf]; omega
set_option maxRecDepth 20000 in
set_option maxHeartbeats 1000000 in
theorem rLog_z (a : UInt8) (ha : a = 0) (w : World) : Calls Try.prog 13 #[.int .u8 a.toNat] w fun e w' => e = .returned (.tuple #[.int .i64 0, .bool false]) ∧ w = w' := by
  have HA := Lib.hid ha
  clear ha
  go_enter Try.func13, Try.ntmps13
  go_wp2_with fail
  go_loopw [4, 5] (fun p i wr => ∃ (j : Nat), j ≤ 255 ∧ i = .int .i64 j ∧ p = .int .u8 (E j).toNat ∧ wr = w) (fun _ i _ => 255 - (intOf i).toNat)
  case atStart => exact ⟨0, by omega, rfl, by rw [E_zero]; rfl, rfl⟩
  case round =>
    obtain ⟨j, hj, rfl, rfl, rfl⟩ := hrel
    by_cases hlt : j < 255
    · have hb := ne_u8 (by rw [HA.out]; exact E_ne j : E j ≠ a)
      have HS := Lib.hid (E_succ j)
      go_wp2_with fail
      with_reducible refine (rMul_two _ _).mono ?_
      rintro e w' ⟨rfl, rfl⟩
      go_wp2_with fail
      go_roundw
      case rel => exact ⟨j + 1, by omega, by go_num, by rw [HS.out], trivial⟩
      case measure => simp [intOf]; omega
    · obtain rfl : j = 255 := by omega
      go_wp2_with fail
      go_ret2
      exact ⟨rfl, rfl⟩
theorem rLog_any (a : UInt8) (w : World) : Calls Try.prog 13 #[.int .u8 a.toNat] w fun e w' => e = .returned (.tuple #[.int .i64 (L a), .bool (nzB a)]) ∧ w = w' := by
  rw [nzB_eq]
  by_cases h : a = 0
  · have := rLog_z a h w
    rw [show L a = 0 by rw [h, L_zero], show decide (a ≠ 0) = false by simp [h]]; exact this
  · rw [show decide (a ≠ 0) = true by simp [h]]; exact rLog_nz a h w
end Go.Proofs.Yteghbjcahggkeaa

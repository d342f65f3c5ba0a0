/- The chapter's examples. -/
import Derived.Test.YteghbjcahggkeaaGScale2
namespace Go.Proofs.Yteghbjcahggkeaa
open Go.RowKit

theorem Scale_any (to of : ByteArray) (t : UInt8) (h : of.size = to.size) (hn : to.size ≤ 1000000) (w : World) :
    Calls Try.prog 20 #[.string to, .string of, .int .u8 t.toNat] w fun e w' => e = .returned (.tuple #[.string (scaled to of t), .bool true]) ∧ Below w.heap.size w w' := Scale_yes to of t h hn w
theorem kInv (w : World) : Calls Try.prog 10 #[.int .u8 2] w fun e w' => e = .returned (.tuple #[.int .u8 142, .bool true]) ∧ w = w' := by
  have h := Inv_any 2 w
  rw [show (inv 2).toNat = 142 by decide +kernel, show nzB 2 = true by rw [nzB_eq]; decide] at h
  exact h
theorem kDiv (w : World) : Calls Try.prog 8 #[.int .u8 1, .int .u8 0] w fun e w' => e = .returned (.tuple #[.int .u8 0, .bool false]) ∧ w = w' := by
  have h := Div_any 1 0 w
  rw [show (tm 1 (inv 0)).toNat = 0 by decide +kernel, show nzB 0 = false by rw [nzB_eq]; decide] at h
  exact h
theorem kLog (w : World) : Calls Try.prog 12 #[.int .u8 2] w fun e w' => e = .returned (.tuple #[.int .i64 1, .bool true]) ∧ Below w.heap.size w w' := by
  have h := Log_any 2 w
  rw [show L 2 = 1 by decide +kernel, show nzB 2 = true by rw [nzB_eq]; decide] at h
  exact h
theorem kScaled : scaled ⟨#[1, 2]⟩ ⟨#[3, 4]⟩ 2 = ⟨#[7, 10]⟩ := by decide +kernel
theorem kScale (w : World) : Calls Try.prog 20 #[.string ⟨#[1, 2]⟩, .string ⟨#[3, 4]⟩, .int .u8 2] w fun e w' => e = .returned (.tuple #[.string ⟨#[7, 10]⟩, .bool true]) ∧ Below w.heap.size w w' := by
  have h := Scale_any ⟨#[1, 2]⟩ ⟨#[3, 4]⟩ 2 rfl (by decide) w
  rw [kScaled] at h
  exact h
theorem kAdd (w : World) : Calls Try.prog 14 #[.int .u8 5, .int .u8 3] w fun e w' => e = .returned (.int .u8 6) ∧ w = w' := by
  have h := Add_any 5 3 w
  rw [show (xr 5 3).toNat = 6 by decide +kernel] at h
  exact h
theorem kMul1 (w : World) : Calls Try.prog 15 #[.int .u8 2, .int .u8 128] w fun e w' => e = .returned (.int .u8 29) ∧ w = w' := by
  have h := Mul_any 2 128 w
  rw [show (tm 2 128).toNat = 29 by decide +kernel] at h
  exact h
theorem kMul2 (w : World) : Calls Try.prog 15 #[.int .u8 3, .int .u8 7] w fun e w' => e = .returned (.int .u8 9) ∧ w = w' := by
  have h := Mul_any 3 7 w
  rw [show (tm 3 7).toNat = 9 by decide +kernel] at h
  exact h
theorem kExp1 (w : World) : Calls Try.prog 19 #[.int .i64 8] w fun e w' => e = .returned (.int .u8 29) ∧ w = w' := by
  have h := Exp_any 8 w
  rw [show (pow 2 8).toNat = 29 by decide +kernel] at h
  exact h
theorem kExp2 (w : World) : Calls Try.prog 19 #[.int .i64 (-1)] w fun e w' => e = .returned (.int .u8 142) ∧ w = w' := by
  have h := Exp_any (-1) w
  rw [show (pow 2 (-1)).toNat = 142 by decide +kernel] at h
  exact h
theorem kPow (w : World) : Calls Try.prog 17 #[.int .u8 0, .int .i64 0] w fun e w' => e = .returned (.int .u8 1) ∧ w = w' := by
  have h := Pow_any 0 0 w
  rw [show (pow 0 0).toNat = 1 by decide +kernel] at h
  exact h
set_option maxRecDepth 20000 in
set_option maxHeartbeats 1000000 in
theorem known_any (w : World) : Calls Try.prog 7 #[] w fun e w' => e = .returned (.bool true) ∧ Below w.heap.size w w' := by
  go_enter Try.func7, Try.ntmps7
  go_wp2_with fail
  refine (kInv _).mono ?_
  rintro e w' ⟨rfl, rfl⟩
  go_wp2_with fail
  refine (kDiv _).mono ?_
  rintro e w' ⟨rfl, rfl⟩
  go_wp2_with fail
  refine (kLog _).mono ?_
  rintro e w1 ⟨rfl, hb1⟩
  have HB1 := Lib.hid hb1
  clear hb1
  go_wp2_with fail
  refine (kScale _).mono ?_
  rintro e w2 ⟨rfl, hb2⟩
  have HB2 := Lib.hid (HB1.out.trans (hb2.mono HB1.out.size))
  clear hb2
  go_wp2_with fail
  refine (kAdd _).mono ?_
  rintro e w' ⟨rfl, rfl⟩
  go_wp2_with fail
  refine (kMul1 _).mono ?_
  rintro e w' ⟨rfl, rfl⟩
  go_wp2_with fail
  refine (kMul2 _).mono ?_
  rintro e w' ⟨rfl, rfl⟩
  go_wp2_with fail
  refine (kExp1 _).mono ?_
  rintro e w' ⟨rfl, rfl⟩
  go_wp2_with fail
  refine (kExp2 _).mono ?_
  rintro e w' ⟨rfl, rfl⟩
  go_wp2_with fail
  refine (kPow _).mono ?_
  rintro e w' ⟨rfl, rfl⟩
  go_wp2_with fail
  go_ret
  exact ⟨rfl, HB2.out⟩
end Go.Proofs.Yteghbjcahggkeaa

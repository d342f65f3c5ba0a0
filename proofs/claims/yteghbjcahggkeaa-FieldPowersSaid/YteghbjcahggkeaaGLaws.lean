/- The walk of FieldLaws. -/
import Derived.Test.YteghbjcahggkeaaGKnown
namespace Go.Proofs.Yteghbjcahggkeaa
open Go.RowKit

theorem xr_comm (a b : UInt8) : xr a b = xr b a := by rw [xr_eq, xr_eq]; ac_rfl
theorem xr_assoc (a b c : UInt8) : xr (xr a b) c = xr a (xr b c) := by rw [xr_eq, xr_eq, xr_eq, xr_eq]; ac_rfl
theorem xr_self (a : UInt8) : xr a a = 0 := by rw [xr_eq]; simp
theorem xr_zero (a : UInt8) : xr a 0 = a := by rw [xr_eq]; simp
theorem tm_xr (a b c : UInt8) : tm a (xr b c) = xr (tm a b) (tm a c) := by rw [xr_eq, xr_eq, tm_xor]
theorem Add_r (a b r : UInt8) (h : xr a b = r) (w : World) : Calls Try.prog 14 #[.int .u8 a.toNat, .int .u8 b.toNat] w fun e w' => e = .returned (.int .u8 r.toNat) ∧ w = w' := by
  subst h; exact Add_any a b w
theorem Mul_r (a b r : UInt8) (h : tm a b = r) (w : World) : Calls Try.prog 15 #[.int .u8 a.toNat, .int .u8 b.toNat] w fun e w' => e = .returned (.int .u8 r.toNat) ∧ w = w' := by
  subst h; exact Mul_any a b w
theorem Add_0 (a : UInt8) (w : World) : Calls Try.prog 14 #[.int .u8 a.toNat, .int .u8 0] w fun e w' => e = .returned (.int .u8 a.toNat) ∧ w = w' := Add_r a 0 a (xr_zero a) w
theorem Add_same (a : UInt8) (w : World) : Calls Try.prog 14 #[.int .u8 a.toNat, .int .u8 a.toNat] w fun e w' => e = .returned (.int .u8 0) ∧ w = w' := Add_r a a 0 (xr_self a) w
theorem Mul_1 (a : UInt8) (w : World) : Calls Try.prog 15 #[.int .u8 a.toNat, .int .u8 1] w fun e w' => e = .returned (.int .u8 a.toNat) ∧ w = w' := Mul_r a 1 a (tm_one a) w
theorem Inv_0 (a : UInt8) (h : a = 0) (w : World) : Calls Try.prog 10 #[.int .u8 a.toNat] w fun e w' => e = .returned (.tuple #[.int .u8 0, .bool false]) ∧ w = w' := by
  have h2 := Inv_any a w
  rw [show (inv a).toNat = 0 by rw [h, inv_zero]; rfl, show nzB a = false by rw [nzB_eq]; simp [h]] at h2
  exact h2
theorem Inv_nz (a : UInt8) (h : a ≠ 0) (w : World) : Calls Try.prog 10 #[.int .u8 a.toNat] w fun e w' => e = .returned (.tuple #[.int .u8 (inv a).toNat, .bool true]) ∧ w = w' := by
  have h2 := Inv_any a w
  rw [show nzB a = true by rw [nzB_eq]; simp [h]] at h2
  exact h2
theorem Div_0 (c a : UInt8) (h : a = 0) (w : World) : Calls Try.prog 8 #[.int .u8 c.toNat, .int .u8 a.toNat] w fun e w' => e = .returned (.tuple #[.int .u8 0, .bool false]) ∧ w = w' := by
  have h2 := Div_any c a w
  rw [show (tm c (inv a)).toNat = 0 by rw [h, inv_zero, tm_zero]; rfl, show nzB a = false by rw [nzB_eq]; simp [h]] at h2
  exact h2
theorem Div_nz (c a : UInt8) (h : a ≠ 0) (w : World) : Calls Try.prog 8 #[.int .u8 c.toNat, .int .u8 a.toNat] w fun e w' => e = .returned (.tuple #[.int .u8 (tm c (inv a)).toNat, .bool true]) ∧ w = w' := by
  have h2 := Div_any c a w
  rw [show nzB a = true by rw [nzB_eq]; simp [h]] at h2
  exact h2
theorem Mul_inv (a : UInt8) (h : a ≠ 0) (w : World) : Calls Try.prog 15 #[.int .u8 a.toNat, .int .u8 (inv a).toNat] w fun e w' => e = .returned (.int .u8 1) ∧ w = w' := Mul_r a (inv a) 1 (tm_inv a h) w
theorem not_eq0 {a : UInt8} (h : a = 0) : ((a.toNat : Int) != 0) = false := by rw [h]; rfl
theorem not_ne0 {a : UInt8} (h : a ≠ 0) : ((a.toNat : Int) != 0) = true := by
  have := u8_ne0 h
  rw [bne, this]; rfl
set_option maxRecDepth 100000 in
set_option maxHeartbeats 4000000 in
theorem Laws_a0 (a b c : UInt8) (ha : a = 0) (w : World) : Calls Try.prog 5 #[.int .u8 a.toNat, .int .u8 b.toNat, .int .u8 c.toNat] w fun e w' => e = .returned (.bool true) ∧ Below w.heap.size w w' := by
  have h1 := u8_eq0 ha
  have h2 := not_eq0 ha
  have h3 := u8_eq0 ((tm_eq_zero a b).2 (.inl ha))
  have HA := Lib.hid ha
  clear ha
  go_enter Try.func5, Try.ntmps5
  go_wp2_with fail
  refine (known_any _).mono ?_
  rintro e w1 ⟨rfl, hb1⟩
  have HB1 := Lib.hid hb1
  clear hb1
  go_wp2_with fail
  with_reducible refine (Add_any a b _).mono ?_
  rintro e w' ⟨rfl, rfl⟩
  go_wp2_with fail
  with_reducible refine (Add_r b a (xr a b) (xr_comm b a) _).mono ?_
  rintro e w' ⟨rfl, rfl⟩
  go_wp2_with fail
  with_reducible refine (Add_any a b _).mono ?_
  rintro e w' ⟨rfl, rfl⟩
  go_wp2_with fail
  with_reducible refine (Add_any (xr a b) c _).mono ?_
  rintro e w' ⟨rfl, rfl⟩
  go_wp2_with fail
  with_reducible refine (Add_any b c _).mono ?_
  rintro e w' ⟨rfl, rfl⟩
  go_wp2_with fail
  with_reducible refine (Add_r a (xr b c) (xr (xr a b) c) (xr_assoc a b c).symm _).mono ?_
  rintro e w' ⟨rfl, rfl⟩
  go_wp2_with fail
  with_reducible refine (Add_0 a _).mono ?_
  rintro e w' ⟨rfl, rfl⟩
  go_wp2_with fail
  with_reducible refine (Add_same a _).mono ?_
  rintro e w' ⟨rfl, rfl⟩
  go_wp2_with fail
  with_reducible refine (Mul_any a b _).mono ?_
  rintro e w' ⟨rfl, rfl⟩
  go_wp2_with fail
  with_reducible refine (Mul_r b a (tm a b) (tm_comm b a) _).mono ?_
  rintro e w' ⟨rfl, rfl⟩
  go_wp2_with fail
  with_reducible refine (Mul_any a b _).mono ?_
  rintro e w' ⟨rfl, rfl⟩
  go_wp2_with fail
  with_reducible refine (Mul_any (tm a b) c _).mono ?_
  rintro e w' ⟨rfl, rfl⟩
  go_wp2_with fail
  with_reducible refine (Mul_any b c _).mono ?_
  rintro e w' ⟨rfl, rfl⟩
  go_wp2_with fail
  with_reducible refine (Mul_r a (tm b c) (tm (tm a b) c) (tm_assoc a b c).symm _).mono ?_
  rintro e w' ⟨rfl, rfl⟩
  go_wp2_with fail
  with_reducible refine (Mul_1 a _).mono ?_
  rintro e w' ⟨rfl, rfl⟩
  go_wp2_with fail
  with_reducible refine (Mul_any a b _).mono ?_
  rintro e w' ⟨rfl, rfl⟩
  go_wp2_with fail
  with_reducible refine (Add_any b c _).mono ?_
  rintro e w' ⟨rfl, rfl⟩
  go_wp2_with fail
  with_reducible refine (Mul_any a (xr b c) _).mono ?_
  rintro e w' ⟨rfl, rfl⟩
  go_wp2_with fail
  with_reducible refine (Mul_any a b _).mono ?_
  rintro e w' ⟨rfl, rfl⟩
  go_wp2_with fail
  with_reducible refine (Mul_any a c _).mono ?_
  rintro e w' ⟨rfl, rfl⟩
  go_wp2_with fail
  with_reducible refine (Add_r (tm a b) (tm a c) (tm a (xr b c)) (tm_xr a b c).symm _).mono ?_
  rintro e w' ⟨rfl, rfl⟩
  go_wp2_with fail
  with_reducible refine (Inv_0 a HA.out _).mono ?_
  rintro e w' ⟨rfl, rfl⟩
  go_wp2_with fail
  with_reducible refine (Div_0 c a HA.out _).mono ?_
  rintro e w' ⟨rfl, rfl⟩
  go_wp2_with fail
  go_ret
  exact ⟨rfl, HB1.out⟩
set_option maxRecDepth 100000 in
set_option maxHeartbeats 4000000 in
theorem Laws_b0 (a b c : UInt8) (ha : a ≠ 0) (hb : b = 0) (w : World) : Calls Try.prog 5 #[.int .u8 a.toNat, .int .u8 b.toNat, .int .u8 c.toNat] w fun e w' => e = .returned (.bool true) ∧ Below w.heap.size w w' := by
  have h1 := u8_ne0 ha
  have h2 := not_ne0 ha
  have h3 := u8_eq0 ((tm_eq_zero a b).2 (.inr hb))
  have h4 := u8_eq0 hb
  have HA := Lib.hid ha
  clear ha hb
  go_enter Try.func5, Try.ntmps5
  go_wp2_with fail
  refine (known_any _).mono ?_
  rintro e w1 ⟨rfl, hb1⟩
  have HB1 := Lib.hid hb1
  clear hb1
  go_wp2_with fail
  with_reducible refine (Add_any a b _).mono ?_
  rintro e w' ⟨rfl, rfl⟩
  go_wp2_with fail
  with_reducible refine (Add_r b a (xr a b) (xr_comm b a) _).mono ?_
  rintro e w' ⟨rfl, rfl⟩
  go_wp2_with fail
  with_reducible refine (Add_any a b _).mono ?_
  rintro e w' ⟨rfl, rfl⟩
  go_wp2_with fail
  with_reducible refine (Add_any (xr a b) c _).mono ?_
  rintro e w' ⟨rfl, rfl⟩
  go_wp2_with fail
  with_reducible refine (Add_any b c _).mono ?_
  rintro e w' ⟨rfl, rfl⟩
  go_wp2_with fail
  with_reducible refine (Add_r a (xr b c) (xr (xr a b) c) (xr_assoc a b c).symm _).mono ?_
  rintro e w' ⟨rfl, rfl⟩
  go_wp2_with fail
  with_reducible refine (Add_0 a _).mono ?_
  rintro e w' ⟨rfl, rfl⟩
  go_wp2_with fail
  with_reducible refine (Add_same a _).mono ?_
  rintro e w' ⟨rfl, rfl⟩
  go_wp2_with fail
  with_reducible refine (Mul_any a b _).mono ?_
  rintro e w' ⟨rfl, rfl⟩
  go_wp2_with fail
  with_reducible refine (Mul_r b a (tm a b) (tm_comm b a) _).mono ?_
  rintro e w' ⟨rfl, rfl⟩
  go_wp2_with fail
  with_reducible refine (Mul_any a b _).mono ?_
  rintro e w' ⟨rfl, rfl⟩
  go_wp2_with fail
  with_reducible refine (Mul_any (tm a b) c _).mono ?_
  rintro e w' ⟨rfl, rfl⟩
  go_wp2_with fail
  with_reducible refine (Mul_any b c _).mono ?_
  rintro e w' ⟨rfl, rfl⟩
  go_wp2_with fail
  with_reducible refine (Mul_r a (tm b c) (tm (tm a b) c) (tm_assoc a b c).symm _).mono ?_
  rintro e w' ⟨rfl, rfl⟩
  go_wp2_with fail
  with_reducible refine (Mul_1 a _).mono ?_
  rintro e w' ⟨rfl, rfl⟩
  go_wp2_with fail
  with_reducible refine (Mul_any a b _).mono ?_
  rintro e w' ⟨rfl, rfl⟩
  go_wp2_with fail
  with_reducible refine (Add_any b c _).mono ?_
  rintro e w' ⟨rfl, rfl⟩
  go_wp2_with fail
  with_reducible refine (Mul_any a (xr b c) _).mono ?_
  rintro e w' ⟨rfl, rfl⟩
  go_wp2_with fail
  with_reducible refine (Mul_any a b _).mono ?_
  rintro e w' ⟨rfl, rfl⟩
  go_wp2_with fail
  with_reducible refine (Mul_any a c _).mono ?_
  rintro e w' ⟨rfl, rfl⟩
  go_wp2_with fail
  with_reducible refine (Add_r (tm a b) (tm a c) (tm a (xr b c)) (tm_xr a b c).symm _).mono ?_
  rintro e w' ⟨rfl, rfl⟩
  go_wp2_with fail
  with_reducible refine (Inv_nz a HA.out _).mono ?_
  rintro e w' ⟨rfl, rfl⟩
  go_wp2_with fail
  with_reducible refine (Div_nz c a HA.out _).mono ?_
  rintro e w' ⟨rfl, rfl⟩
  go_wp2_with fail
  with_reducible refine (Mul_inv a HA.out _).mono ?_
  rintro e w' ⟨rfl, rfl⟩
  go_wp2_with fail
  with_reducible refine (Mul_r (tm c (inv a)) a c (div_tm a c HA.out) _).mono ?_
  rintro e w' ⟨rfl, rfl⟩
  go_wp2_with fail
  go_ret
  exact ⟨rfl, HB1.out⟩
set_option maxRecDepth 100000 in
set_option maxHeartbeats 4000000 in
theorem Laws_nz (a b c : UInt8) (ha : a ≠ 0) (hb : b ≠ 0) (w : World) : Calls Try.prog 5 #[.int .u8 a.toNat, .int .u8 b.toNat, .int .u8 c.toNat] w fun e w' => e = .returned (.bool true) ∧ Below w.heap.size w w' := by
  have h1 := u8_ne0 ha
  have h2 := not_ne0 ha
  have h3 := u8_ne0 (fun h => ((tm_eq_zero a b).1 h).elim ha hb)
  have h4 := u8_ne0 hb
  have HA := Lib.hid ha
  clear ha hb
  go_enter Try.func5, Try.ntmps5
  go_wp2_with fail
  refine (known_any _).mono ?_
  rintro e w1 ⟨rfl, hb1⟩
  have HB1 := Lib.hid hb1
  clear hb1
  go_wp2_with fail
  with_reducible refine (Add_any a b _).mono ?_
  rintro e w' ⟨rfl, rfl⟩
  go_wp2_with fail
  with_reducible refine (Add_r b a (xr a b) (xr_comm b a) _).mono ?_
  rintro e w' ⟨rfl, rfl⟩
  go_wp2_with fail
  with_reducible refine (Add_any a b _).mono ?_
  rintro e w' ⟨rfl, rfl⟩
  go_wp2_with fail
  with_reducible refine (Add_any (xr a b) c _).mono ?_
  rintro e w' ⟨rfl, rfl⟩
  go_wp2_with fail
  with_reducible refine (Add_any b c _).mono ?_
  rintro e w' ⟨rfl, rfl⟩
  go_wp2_with fail
  with_reducible refine (Add_r a (xr b c) (xr (xr a b) c) (xr_assoc a b c).symm _).mono ?_
  rintro e w' ⟨rfl, rfl⟩
  go_wp2_with fail
  with_reducible refine (Add_0 a _).mono ?_
  rintro e w' ⟨rfl, rfl⟩
  go_wp2_with fail
  with_reducible refine (Add_same a _).mono ?_
  rintro e w' ⟨rfl, rfl⟩
  go_wp2_with fail
  with_reducible refine (Mul_any a b _).mono ?_
  rintro e w' ⟨rfl, rfl⟩
  go_wp2_with fail
  with_reducible refine (Mul_r b a (tm a b) (tm_comm b a) _).mono ?_
  rintro e w' ⟨rfl, rfl⟩
  go_wp2_with fail
  with_reducible refine (Mul_any a b _).mono ?_
  rintro e w' ⟨rfl, rfl⟩
  go_wp2_with fail
  with_reducible refine (Mul_any (tm a b) c _).mono ?_
  rintro e w' ⟨rfl, rfl⟩
  go_wp2_with fail
  with_reducible refine (Mul_any b c _).mono ?_
  rintro e w' ⟨rfl, rfl⟩
  go_wp2_with fail
  with_reducible refine (Mul_r a (tm b c) (tm (tm a b) c) (tm_assoc a b c).symm _).mono ?_
  rintro e w' ⟨rfl, rfl⟩
  go_wp2_with fail
  with_reducible refine (Mul_1 a _).mono ?_
  rintro e w' ⟨rfl, rfl⟩
  go_wp2_with fail
  with_reducible refine (Mul_any a b _).mono ?_
  rintro e w' ⟨rfl, rfl⟩
  go_wp2_with fail
  with_reducible refine (Add_any b c _).mono ?_
  rintro e w' ⟨rfl, rfl⟩
  go_wp2_with fail
  with_reducible refine (Mul_any a (xr b c) _).mono ?_
  rintro e w' ⟨rfl, rfl⟩
  go_wp2_with fail
  with_reducible refine (Mul_any a b _).mono ?_
  rintro e w' ⟨rfl, rfl⟩
  go_wp2_with fail
  with_reducible refine (Mul_any a c _).mono ?_
  rintro e w' ⟨rfl, rfl⟩
  go_wp2_with fail
  with_reducible refine (Add_r (tm a b) (tm a c) (tm a (xr b c)) (tm_xr a b c).symm _).mono ?_
  rintro e w' ⟨rfl, rfl⟩
  go_wp2_with fail
  with_reducible refine (Inv_nz a HA.out _).mono ?_
  rintro e w' ⟨rfl, rfl⟩
  go_wp2_with fail
  with_reducible refine (Div_nz c a HA.out _).mono ?_
  rintro e w' ⟨rfl, rfl⟩
  go_wp2_with fail
  with_reducible refine (Mul_inv a HA.out _).mono ?_
  rintro e w' ⟨rfl, rfl⟩
  go_wp2_with fail
  with_reducible refine (Mul_r (tm c (inv a)) a c (div_tm a c HA.out) _).mono ?_
  rintro e w' ⟨rfl, rfl⟩
  go_wp2_with fail
  go_ret
  exact ⟨rfl, HB1.out⟩
theorem Laws_walk (a b c : UInt8) (w : World) : Calls Try.prog 5 #[.int .u8 a.toNat, .int .u8 b.toNat, .int .u8 c.toNat] w fun e w' => e = .returned (.bool true) ∧ Below w.heap.size w w' := by
  by_cases ha : a = 0
  · exact Laws_a0 a b c ha w
  · by_cases hb : b = 0
    · exact Laws_b0 a b c ha hb w
    · exact Laws_nz a b c ha hb w
end Go.Proofs.Yteghbjcahggkeaa

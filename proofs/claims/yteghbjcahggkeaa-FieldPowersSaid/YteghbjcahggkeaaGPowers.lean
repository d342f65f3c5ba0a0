/- The walk of FieldPowers. -/
import Derived.Test.YteghbjcahggkeaaGLaws
namespace Go.Proofs.Yteghbjcahggkeaa
open Go.RowKit

theorem Log_exp (n : Int) (w : World) : Calls Try.prog 12 #[.int .u8 (pow 2 n).toNat] w fun e w' => e = .returned (.tuple #[.int .i64 (lt255 n), .bool true]) ∧ Below w.heap.size w w' := by
  have h := Log_nz (pow 2 n) (by rw [exp_E]; exact E_ne _) w
  rw [L_exp] at h
  exact h
theorem lt_sum (m n : Int) : (lt255 (m + n) : Int) = ((lt255 m : Int) + (lt255 n : Int)) % 255 := by unfold lt255; omega
theorem Log_exp2 (m n : Int) (a b : Nat) (ha : a = lt255 m) (hb : b = lt255 n) (w : World) : Calls Try.prog 12 #[.int .u8 (pow 2 (m + n)).toNat] w fun e w' => e = .returned (.tuple #[.int .i64 (((a : Int) + (b : Int)) % 255), .bool true]) ∧ Below w.heap.size w w' := by
  have h := Log_exp (m + n) w
  rw [lt_sum] at h
  rw [ha, hb]
  exact h
theorem Log_exp1 (n : Int) (a : Nat) (ha : a = lt255 n) (w : World) : Calls Try.prog 12 #[.int .u8 (pow 2 n).toNat] w fun e w' => e = .returned (.tuple #[.int .i64 (a : Int), .bool true]) ∧ Below w.heap.size w w' := by
  rw [ha]; exact Log_exp n w
theorem Exp_L (a : UInt8) (h : a ≠ 0) (l : Nat) (hl : l = L a) (w : World) : Calls Try.prog 19 #[.int .i64 (l : Int)] w fun e w' => e = .returned (.int .u8 a.toNat) ∧ w = w' := by
  have h2 := Exp_any (L a : Int) w
  rw [exp_L a h] at h2
  rw [hl]; exact h2
theorem Log_L (a : UInt8) (h : a ≠ 0) (l : Nat) (hl : l = L a) (w : World) : Calls Try.prog 12 #[.int .u8 a.toNat] w fun e w' => e = .returned (.tuple #[.int .i64 (l : Int), .bool true]) ∧ Below w.heap.size w w' := by
  rw [hl]; exact Log_nz a h w
theorem quo_bd (n : Int) (h1 : -9223372036854775808 ≤ n) (h2 : n ≤ 9223372036854775807) : -2305843009213693952 ≤ n.tdiv 4 ∧ n.tdiv 4 ≤ 2305843009213693951 := by
  have h := Int.mul_tdiv_add_tmod n 4
  have h3 := Int.lt_tmod_of_pos n (b := 4) (by decide)
  have h4 := Int.tmod_lt_of_pos n (b := 4) (by decide)
  have h5 := Int.tmod_nonneg (a := n) 4
  omega
theorem Pow_255 (a : UInt8) (h : a ≠ 0) (w : World) : Calls Try.prog 17 #[.int .u8 a.toNat, .int .i64 255] w fun e w' => e = .returned (.int .u8 1) ∧ w = w' := by
  have h2 := Pow_any a 255 w
  rw [pow_255 a h] at h2
  exact h2
set_option maxRecDepth 100000 in
set_option maxHeartbeats 4000000 in
theorem Powers_0 (a : UInt8) (n m : Int) (ha : a = 0) (w : World) : Calls Try.prog 6 #[.int .u8 a.toNat, .int .i64 n, .int .i64 m] w fun e w' => e = .returned (.bool true) ∧ Below w.heap.size w w' := by
  have h1 := u8_eq0 ha
  have HA := Lib.hid ha
  clear ha
  go_enter Try.func6, Try.ntmps6
  go_wp2_with fail
  refine (known_any _).mono ?_
  rintro e w1 ⟨rfl, hb1⟩
  have HB1 := Lib.hid hb1
  clear hb1
  go_wp2_with fail
  with_reducible refine (Log_z a HA.out _).mono ?_
  rintro e w2 ⟨rfl, hb2⟩
  have HB2 := Lib.hid (HB1.out.trans (hb2.mono HB1.out.size))
  clear hb2
  go_wp2_with fail
  go_ret
  exact ⟨rfl, HB2.out⟩
set_option maxRecDepth 100000 in
set_option maxHeartbeats 4000000 in
theorem Powers_nz (a : UInt8) (n m : Int) (ha : a ≠ 0) (n1 : -9223372036854775808 ≤ n) (n2 : n ≤ 9223372036854775807) (m1 : -9223372036854775808 ≤ m) (m2 : m ≤ 9223372036854775807) (w : World) :
    Calls Try.prog 6 #[.int .u8 a.toNat, .int .i64 n, .int .i64 m] w fun e w' => e = .returned (.bool true) ∧ Below w.heap.size w w' := by
  have h1 := u8_ne0 ha
  have HA := Lib.hid ha
  obtain ⟨N, hN⟩ : ∃ N, n.tdiv 4 = N := ⟨_, rfl⟩
  obtain ⟨M, hM⟩ : ∃ M, m.tdiv 4 = M := ⟨_, rfl⟩
  have bN : -2305843009213693952 ≤ N ∧ N ≤ 2305843009213693951 := by rw [← hN]; exact quo_bd n n1 n2
  have bM : -2305843009213693952 ≤ M ∧ M ≤ 2305843009213693951 := by rw [← hM]; exact quo_bd m m1 m2
  obtain ⟨bN1, bN2⟩ := bN
  obtain ⟨bM1, bM2⟩ := bM
  obtain ⟨l, hl⟩ : ∃ l, l = L a := ⟨_, rfl⟩
  obtain ⟨k, hk⟩ : ∃ l, l = lt255 N := ⟨_, rfl⟩
  obtain ⟨i, hi⟩ : ∃ l, l = lt255 M := ⟨_, rfl⟩
  have hl2 : l < 255 := by rw [hl]; exact L_lt a ha
  have hk2 : k < 255 := by rw [hk]; exact lt255_lt N
  have hi2 : i < 255 := by rw [hi]; exact lt255_lt M
  have HL := Lib.hid hl
  have HK := Lib.hid hk
  have HI := Lib.hid hi
  clear ha hl hk hi
  go_enter Try.func6, Try.ntmps6
  go_wp2_with fail
  refine (known_any _).mono ?_
  rintro e w1 ⟨rfl, hb1⟩
  have HB1 := Lib.hid hb1
  clear hb1
  go_wp2_with fail
  with_reducible refine (Log_L a HA.out l HL.out _).mono ?_
  rintro e w2 ⟨rfl, hb2⟩
  have HB2 := Lib.hid (HB1.out.trans (hb2.mono HB1.out.size))
  clear hb2
  go_wp2_with fail
  with_reducible refine (Exp_any N _).mono ?_
  rintro e w' ⟨rfl, rfl⟩
  go_wp2_with fail
  with_reducible refine (Log_exp1 N k HK.out _).mono ?_
  rintro e w3 ⟨rfl, hb3⟩
  have HB3 := Lib.hid (HB2.out.trans (hb3.mono HB2.out.size))
  clear hb3
  go_wp2_with fail
  with_reducible refine (Exp_any M _).mono ?_
  rintro e w' ⟨rfl, rfl⟩
  go_wp2_with fail
  with_reducible refine (Log_exp1 M i HI.out _).mono ?_
  rintro e w4 ⟨rfl, hb4⟩
  have HB4 := Lib.hid (HB3.out.trans (hb4.mono HB3.out.size))
  clear hb4
  go_wp2_with fail
  with_reducible refine (Exp_any N _).mono ?_
  rintro e w' ⟨rfl, rfl⟩
  go_wp2_with fail
  with_reducible refine (Exp_any M _).mono ?_
  rintro e w' ⟨rfl, rfl⟩
  go_wp2_with fail
  with_reducible refine (Mul_r (pow 2 N) (pow 2 M) (pow 2 (N + M)) (pow_add 2 two_ne N M) _).mono ?_
  rintro e w' ⟨rfl, rfl⟩
  go_wp2_with fail
  with_reducible refine (Log_exp2 N M k i HK.out HI.out _).mono ?_
  rintro e w5 ⟨rfl, hb5⟩
  have HB5 := Lib.hid (HB4.out.trans (hb5.mono HB4.out.size))
  clear hb5
  go_wp2_with fail
  with_reducible refine (Exp_L a HA.out l HL.out _).mono ?_
  rintro e w' ⟨rfl, rfl⟩
  go_wp2_with fail
  with_reducible refine (Exp_any N _).mono ?_
  rintro e w' ⟨rfl, rfl⟩
  go_wp2_with fail
  with_reducible refine (Exp_any M _).mono ?_
  rintro e w' ⟨rfl, rfl⟩
  go_wp2_with fail
  with_reducible refine (Mul_r (pow 2 N) (pow 2 M) (pow 2 (N + M)) (pow_add 2 two_ne N M) _).mono ?_
  rintro e w' ⟨rfl, rfl⟩
  go_wp2_with fail
  with_reducible refine (Exp_any (N + M) _).mono ?_
  rintro e w' ⟨rfl, rfl⟩
  go_wp2_with fail
  with_reducible refine (Pow_255 a HA.out _).mono ?_
  rintro e w' ⟨rfl, rfl⟩
  go_wp2_with fail
  with_reducible refine (Pow_any a N _).mono ?_
  rintro e w' ⟨rfl, rfl⟩
  go_wp2_with fail
  with_reducible refine (Pow_any a M _).mono ?_
  rintro e w' ⟨rfl, rfl⟩
  go_wp2_with fail
  with_reducible refine (Mul_r (pow a N) (pow a M) (pow a (N + M)) (pow_add a HA.out N M) _).mono ?_
  rintro e w' ⟨rfl, rfl⟩
  go_wp2_with fail
  with_reducible refine (Pow_any a (N + M) _).mono ?_
  rintro e w' ⟨rfl, rfl⟩
  go_wp2_with fail
  go_ret
  exact ⟨rfl, HB5.out⟩
theorem Powers_walk (a : UInt8) (n m : Int) (n1 : -9223372036854775808 ≤ n) (n2 : n ≤ 9223372036854775807) (m1 : -9223372036854775808 ≤ m) (m2 : m ≤ 9223372036854775807) (w : World) :
    Calls Try.prog 6 #[.int .u8 a.toNat, .int .i64 n, .int .i64 m] w fun e w' => e = .returned (.bool true) ∧ Below w.heap.size w w' := by
  by_cases ha : a = 0
  · exact Powers_0 a n m ha w
  · exact Powers_nz a n m ha n1 n2 m1 m2 w
end Go.Proofs.Yteghbjcahggkeaa

/- The walks of the field's small functions: sums, doublings, products, powers. -/
import Derived.Test.YteanbflbclmeeaaGreatGSpec
import Derived.Test.YteanbflbclmeeaaGreatProg
import Derived.ProofKit
import Derived.WalkKit
import Derived.StillTailTactics
import Derived.PlainAid
import Derived.Deep.QuietTactic
import Derived.BigQuiet
namespace Go.Proofs.YteanbflbclmeeaaGreat
open Go.RowKit

/-! Operations on bytes, each behind a name of its own. -/
@[irreducible] def xr (a b : UInt8) : UInt8 := a ^^^ b
@[irreducible] def an (a b : UInt8) : UInt8 := a &&& b
@[irreducible] def ng (a : UInt8) : UInt8 := 0 - a
@[irreducible] def sh1 (a : UInt8) : UInt8 := a <<< (1 : UInt8)
@[irreducible] def hi7 (a : UInt8) : UInt8 := a >>> (7 : UInt8)
@[irreducible] def hf1 (a : UInt8) : UInt8 := a >>> 1
@[irreducible] def lo1 (a : UInt8) : UInt8 := a &&& 1
theorem xr_eq (a b : UInt8) : xr a b = a ^^^ b := by unfold xr; rfl
theorem dbl_ops (a : UInt8) : dbl a = xr (sh1 a) (an 29 (ng (hi7 a))) := by unfold xr an ng sh1 hi7; rfl
theorem tmF_ops (n : Nat) (p a b : UInt8) : tmF (n + 1) p a b = tmF n (xr p (an a (ng (lo1 b)))) (dbl a) (hf1 b) := by unfold xr an ng lo1 hf1; rfl
theorem lo1_eq (b : UInt8) : lo1 b = if b.toNat % 2 = 0 then 0 else 1 := by unfold lo1; exact and_one b
theorem hf1_toNat (b : UInt8) : (hf1 b).toNat = b.toNat / 2 := by unfold hf1; exact shr_one b

theorem g_xor (a b : UInt8) : bits .xor .u8 (a.toNat : Int) (b.toNat : Int) = ((xr a b).toNat : Int) := by
  rw [u8_xor_nat _ _ a.toNat_lt b.toNat_lt, xr_eq, UInt8.toNat_xor]
theorem g_and (a b : UInt8) : bits .and .u8 (a.toNat : Int) (b.toNat : Int) = ((an a b).toNat : Int) := by
  unfold an
  rw [u8_and_nat _ _ a.toNat_lt b.toNat_lt, UInt8.toNat_and]
theorem g_and29 (b : UInt8) : bits .and .u8 29 (b.toNat : Int) = ((an 29 b).toNat : Int) := g_and 29 b
theorem g_and1 (b : UInt8) : bits .and .u8 (b.toNat : Int) 1 = ((lo1 b).toNat : Int) := by have h := g_and b 1; unfold an at h; unfold lo1; exact h
theorem g_shl (a : UInt8) : (a.toNat : Int) * 2 % 256 = ((sh1 a).toNat : Int) := by
  have := all_u8 (fun a => (a <<< (1 : UInt8)).toNat == a.toNat * 2 % 256) (by decide +kernel) a
  unfold sh1
  rw [eq_of_beq this]; omega
theorem g_neg (b : UInt8) : -(b.toNat : Int) % 256 = ((ng b).toNat : Int) := by
  have h := all_u8 (fun a => ((0 : UInt8) - a).toNat == (256 - a.toNat) % 256) (by decide +kernel) b
  have := b.toNat_lt
  unfold ng
  rw [eq_of_beq h]
  omega
theorem g_shr7 (a : UInt8) : (a.toNat : Int) / 128 = ((hi7 a).toNat : Int) := by
  have := all_u8 (fun a => (a >>> (7 : UInt8)).toNat == a.toNat / 128) (by decide +kernel) a
  unfold hi7
  rw [eq_of_beq this]; omega
theorem g_shr1 (a : UInt8) : (a.toNat : Int) / 2 = ((hf1 a).toNat : Int) := by rw [hf1_toNat]; omega
attribute [local go_sem high] g_xor g_and29 g_and1 g_and g_shl g_neg g_shr7 g_shr1
theorem plus_any (a b : UInt8) (w : World) : Calls Tryz.prog 84 #[.int .u8 a.toNat, .int .u8 b.toNat] w fun e w' => e = .returned (.int .u8 (xr a b).toNat) ∧ w = w' := by
  go_enter Tryz.func84, Tryz.ntmps84
  go_wp2_with fail
  go_ret
  exact ⟨rfl, rfl⟩
theorem doubled_any (a : UInt8) (w : World) : Calls Tryz.prog 89 #[.int .u8 a.toNat] w fun e w' => e = .returned (.int .u8 (dbl a).toNat) ∧ w = w' := by
  rw [dbl_ops]
  go_enter Tryz.func89, Tryz.ntmps89
  go_wp2_with fail
  with_reducible refine (plus_any _ _ w).mono ?_
  rintro e w' ⟨rfl, rfl⟩
  go_wp2_with fail
  go_ret
  exact ⟨rfl, rfl⟩
set_option maxHeartbeats 1000000 in
theorem times_any (a b : UInt8) (w : World) : Calls Tryz.prog 90 #[.int .u8 a.toNat, .int .u8 b.toNat] w fun e w' => e = .returned (.int .u8 (tm a b).toNat) ∧ w = w' := by
  have HT := Lib.hid (tm_eq a b)
  go_enter Tryz.func90, Tryz.ntmps90
  go_wp2_with fail
  go_loopw [0, 1, 5, 6] (fun x y p i wr => ∃ (j : Nat) (x' y' p' : UInt8), j ≤ 8 ∧ i = .int .i64 j ∧ x = .int .u8 x'.toNat ∧ y = .int .u8 y'.toNat ∧ p = .int .u8 p'.toNat ∧ tm a b = tmF (8 - j) p' x' y' ∧ wr = w) (fun _ _ _ i _ => 8 - (intOf i).toNat)
  case atStart => exact ⟨0, a, b, 0, by omega, rfl, rfl, rfl, rfl, HT.out, rfl⟩
  case round =>
    obtain ⟨j, x, y, p, hj, rfl, rfl, rfl, rfl, hf, rfl⟩ := hrel
    have HF := Lib.hid hf
    clear hf
    by_cases hlt : j < 8
    · go_wp2_with fail
      with_reducible refine (plus_any _ _ _).mono ?_
      rintro e w' ⟨rfl, rfl⟩
      go_wp2_with fail
      with_reducible refine (doubled_any _ _).mono ?_
      rintro e w' ⟨rfl, rfl⟩
      go_wp2_with fail
      go_roundw
      case rel => exact ⟨j + 1, _, _, _, by omega, by go_num, rfl, rfl, rfl, by rw [HF.out, show 8 - j = (8 - (j + 1)) + 1 from by omega]; exact tmF_ops _ _ _ _, trivial⟩
      case measure => simp [intOf]; omega
    · obtain rfl : j = 8 := by omega
      go_wp2_with fail
      go_ret
      exact ⟨by rw [HF.out]; rfl, rfl⟩

theorem parts_of (n : UInt8) : n.toNat = 2 * (hf1 n).toNat + (lo1 n).toNat ∧ (lo1 n = 0 ∨ lo1 n = 1) := by
  rw [hf1_toNat, lo1_eq]
  have := n.toNat_lt
  by_cases h : n.toNat % 2 = 0
  · rw [if_pos h]; exact ⟨by show _ = _ + 0; omega, .inl rfl⟩
  · rw [if_neg h]; exact ⟨by show _ = _ + 1; omega, .inr rfl⟩
set_option maxHeartbeats 1000000 in
theorem power_any (a n : UInt8) (w : World) : Calls Tryz.prog 87 #[.int .u8 a.toNat, .int .u8 n.toNat] w fun e w' => e = .returned (.int .u8 (pw a n.toNat).toNat) ∧ w = w' := by
  go_enter Tryz.func87, Tryz.ntmps87
  go_wp2_with fail
  go_loopw [0, 1, 5] (fun x y p wr => ∃ (x' y' p' : UInt8), x = .int .u8 x'.toNat ∧ y = .int .u8 y'.toNat ∧ p = .int .u8 p'.toNat ∧ tm p' (pw x' y'.toNat) = pw a n.toNat ∧ wr = w) (fun _ y _ _ => (intOf y).toNat)
  case atStart => exact ⟨a, n, 1, rfl, rfl, rfl, one_tm _, rfl⟩
  case round =>
    obtain ⟨x, y, p, rfl, rfl, rfl, hf, rfl⟩ := hrel
    have HF := Lib.hid hf
    clear hf
    have hy0 := hf1_toNat y
    have HY := Lib.hid hy0
    clear hy0
    obtain ⟨hy, hl⟩ := parts_of y
    by_cases hlt : 0 < y.toNat
    · rcases hl with hl | hl
      · have HP : Hid (tm p (pw x y.toNat) = tm p (pw (tm x x) (hf1 y).toNat)) := Lib.hid (by rw [pw_sq, hy, hl]; rfl)
        have hb : ¬ 0 < (lo1 y).toNat := by rw [hl]; decide
        clear hl hy
        go_wp2_with fail
        with_reducible refine (times_any _ _ _).mono ?_
        rintro e w' ⟨rfl, rfl⟩
        go_wp2_with fail
        go_roundw
        case rel => exact ⟨_, _, _, rfl, rfl, rfl, by rw [← HP.out]; exact HF.out, trivial⟩
        case measure => simp [intOf]; have := HY.out; omega
      · have HP : Hid (tm p (pw x y.toNat) = tm (tm p x) (pw (tm x x) (hf1 y).toNat)) := Lib.hid (by rw [pw_sq, tm_assoc, tm_comm x, ← pw_succ, hy, hl]; rfl)
        have hb : 0 < (lo1 y).toNat := by rw [hl]; decide
        clear hl hy
        go_wp2_with fail
        with_reducible refine (times_any _ _ _).mono ?_
        rintro e w' ⟨rfl, rfl⟩
        go_wp2_with fail
        with_reducible refine (times_any _ _ _).mono ?_
        rintro e w' ⟨rfl, rfl⟩
        go_wp2_with fail
        go_roundw
        case rel => exact ⟨_, _, _, rfl, rfl, rfl, by rw [← HP.out]; exact HF.out, trivial⟩
        case measure => simp [intOf]; have := HY.out; omega
    · have h0 : y.toNat = 0 := by omega
      have HP : Hid (p = pw a n.toNat) := Lib.hid (by rw [← HF.out, h0, pw_zero, tm_one])
      clear hl hy h0
      go_wp2_with fail
      go_ret
      exact ⟨ret_int (by rw [HP.out]), rfl⟩
@[irreducible] def lt8 (n : Int) : UInt8 := UInt8.ofNat (lt255 n)
theorem lt_u8 (n : Int) : (lt8 n).toNat = lt255 n := by
  have hl := lt255_lt n
  unfold lt8
  rw [UInt8.toNat_ofNat', Nat.mod_eq_of_lt (by omega)]
theorem least_eq (n : Int) : (wrap64 (n.tmod 255 + 255)).tmod 255 % 256 = ((lt8 n).toNat : Int) := by
  rw [lt_u8]
  have h : wrap64 (n.tmod 255 + 255) = n.tmod 255 + 255 := by
    unfold wrap64
    have := Int.tmod_lt_of_pos n (b := 255) (by decide)
    have := Int.lt_tmod_of_pos n (b := 255) (by decide)
    omega
  rw [h]
  unfold lt255
  have := Int.tmod_lt_of_pos n (b := 255) (by decide)
  have := Int.lt_tmod_of_pos n (b := 255) (by decide)
  rw [Int.tmod_eq_emod_of_nonneg (by omega)]
  have h3 : n = 255 * n.tdiv 255 + n.tmod 255 := (Int.mul_tdiv_add_tmod n 255).symm
  omega
theorem least_any (n : Int) (w : World) : Calls Tryz.prog 88 #[.int .i64 n] w fun e w' => e = .returned (.int .u8 (lt8 n).toNat) ∧ w = w' := by
  go_enter Tryz.func88, Tryz.ntmps88
  go_wp2_with fail
  go_ret
  exact ⟨ret_int (least_eq n), rfl⟩
theorem Add_any (a b : UInt8) (w : World) : Calls Tryz.prog 75 #[.int .u8 a.toNat, .int .u8 b.toNat] w fun e w' => e = .returned (.int .u8 (xr a b).toNat) ∧ w = w' := by
  go_enter Tryz.func75, Tryz.ntmps75
  go_wp2_with fail
  with_reducible refine (plus_any _ _ _).mono ?_
  rintro e w' ⟨rfl, rfl⟩
  go_wp2_with fail
  go_ret
  exact ⟨rfl, rfl⟩
theorem u8_eq0 {a : UInt8} (h : a = 0) : ((a.toNat : Int) == 0) = true := by rw [h]; rfl
theorem u8_ne0 {a : UInt8} (h : a ≠ 0) : ((a.toNat : Int) == 0) = false := by
  have := nz h
  simp; omega
theorem Pow_any (a : UInt8) (n : Int) (w : World) : Calls Tryz.prog 83 #[.int .u8 a.toNat, .int .i64 n] w fun e w' => e = .returned (.int .u8 (pow a n).toNat) ∧ w = w' := by
  by_cases ha : a = 0
  · by_cases hn : n = 0
    · subst hn
      have HP : Hid (pow a 0 = pw a (lt8 0).toNat) := Lib.hid (by rw [ha, pow_00, lt_u8, show lt255 0 = 0 from rfl, pw_zero])
      have hb := u8_eq0 ha
      clear ha
      go_enter Tryz.func83, Tryz.ntmps83
      go_wp2_with fail
      with_reducible refine (least_any _ _).mono ?_
      rintro e w' ⟨rfl, rfl⟩
      go_wp2_with fail
      with_reducible refine (power_any _ _ _).mono ?_
      rintro e w' ⟨rfl, rfl⟩
      go_wp2_with fail
      go_ret
      exact ⟨ret_int (by rw [HP.out]), rfl⟩
    · have HP : Hid (pow a n = 0) := Lib.hid (by rw [ha, pow_0 n hn])
      have hb := u8_eq0 ha
      have hb2 : (n == 0) = false := by simpa using hn
      clear hn ha
      go_enter Tryz.func83, Tryz.ntmps83
      go_wp2_with fail
      go_ret
      exact ⟨ret_int (by rw [HP.out]; rfl), rfl⟩
  · have HP : Hid (pow a n = pw a (lt8 n).toNat) := Lib.hid (by rw [pow_nz a ha, lt_u8])
    have hb := u8_ne0 ha
    clear ha
    go_enter Tryz.func83, Tryz.ntmps83
    go_wp2_with fail
    with_reducible refine (least_any _ _).mono ?_
    rintro e w' ⟨rfl, rfl⟩
    go_wp2_with fail
    with_reducible refine (power_any _ _ _).mono ?_
    rintro e w' ⟨rfl, rfl⟩
    go_wp2_with fail
    go_ret
    exact ⟨ret_int (by rw [HP.out]), rfl⟩
/-- Whether a byte is another one than 0. -/
@[irreducible] def nzB (a : UInt8) : Bool := !((a.toNat : Int) == 0)
theorem nzB_eq (a : UInt8) : nzB a = decide (a ≠ 0) := by
  unfold nzB
  by_cases h : a = 0
  · rw [u8_eq0 h]; simp [h]
  · rw [u8_ne0 h]; simp [h]
theorem ret_u8_bool {a b : Int} {p q : Bool} (h : a = b) (h2 : p = q) : Ending.returned (.tuple #[.int .u8 a, .bool p]) = .returned (.tuple #[.int .u8 b, .bool q]) := by rw [h, h2]
theorem ret_int_bool {a b : Int} {p q : Bool} (h : a = b) (h2 : p = q) : Ending.returned (.tuple #[.int .i64 a, .bool p]) = .returned (.tuple #[.int .i64 b, .bool q]) := by rw [h, h2]
theorem Inv_any (a : UInt8) (w : World) : Calls Tryz.prog 74 #[.int .u8 a.toNat] w fun e w' => e = .returned (.tuple #[.int .u8 (inv a).toNat, .bool (nzB a)]) ∧ w = w' := by
  have HI := Lib.hid (inv_def a)
  go_enter Tryz.func74, Tryz.ntmps74
  go_wp2_with fail
  refine (Pow_any a (-1) _).mono ?_
  rintro e w' ⟨rfl, rfl⟩
  go_wp2_with fail
  go_ret2
  exact ⟨ret_u8_bool (by rw [HI.out]) (by unfold nzB; rfl), rfl⟩
end Go.Proofs.YteanbflbclmeeaaGreat

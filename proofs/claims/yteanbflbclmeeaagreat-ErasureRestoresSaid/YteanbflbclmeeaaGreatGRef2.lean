/- The walks of the document's own inverses, quotients, powers and logs. -/
import Derived.Test.YteanbflbclmeeaaGreatGRef
namespace Go.Proofs.YteanbflbclmeeaaGreat
open Go.RowKit

theorem one_of {x : UInt8} (h : x = 1) : ((x.toNat : Int) == 1) = true := by rw [h]; rfl
theorem not_one {x : UInt8} (h : x ≠ 1) : ((x.toNat : Int) == 1) = false := by
  have : x.toNat ≠ 1 := fun h0 => h (UInt8.toNat_inj.1 h0)
  simp; omega
theorem rMul_at (a x : UInt8) (j : Nat) (h : x.toNat = j) (w : World) : Calls Tryz.prog 71 #[.int .u8 a.toNat, .int .u8 (j : Int)] w fun e w' => e = .returned (.int .u8 (tm a x).toNat) ∧ w = w' := by
  subst h; exact rMul_any a x w
theorem byte_of (j : Nat) (h : j < 256) : ∃ x : UInt8, x.toNat = j := ⟨UInt8.ofNat j, by rw [UInt8.toNat_ofNat']; omega⟩
theorem inv_nz (a : UInt8) (h : a ≠ 0) : inv a ≠ 0 := by
  intro h0
  have := tm_inv a h
  rw [h0, tm_zero] at this
  exact absurd this (by decide)
set_option maxRecDepth 20000 in
set_option maxHeartbeats 1000000 in
theorem rInv_nz (a : UInt8) (ha : a ≠ 0) (w : World) : Calls Tryz.prog 69 #[.int .u8 a.toNat] w fun e w' => e = .returned (.tuple #[.int .u8 (inv a).toNat, .bool true]) ∧ w = w' := by
  have HA := Lib.hid ha
  have HI : Hid (0 < (inv a).toNat) := Lib.hid (by have := nz (inv_nz a ha); omega)
  clear ha
  go_enter Tryz.func69, Tryz.ntmps69
  go_wp2_with fail
  go_loopw [4] (fun i wr => ∃ (j : Nat), j ≤ (inv a).toNat ∧ i = .int .i64 j ∧ wr = w) (fun i _ => 256 - (intOf i).toNat)
  case atStart => exact ⟨1, HI.out, rfl, rfl⟩
  case round =>
    obtain ⟨j, hj, rfl, rfl⟩ := hrel
    have hv := (inv a).toNat_lt
    have hlt : j < 256 := by omega
    obtain ⟨x, hxj⟩ := byte_of j hlt
    have HX := Lib.hid hxj
    clear hv
    by_cases hx : x = inv a
    · have hb := one_of (by rw [hx]; exact tm_inv a HA.out : tm a x = 1)
      have HE := Lib.hid (show j = (inv a).toNat by rw [← hxj, hx])
      clear hx hxj hj
      go_wp2_with fail
      with_reducible refine (rMul_at a x j HX.out _).mono ?_
      rintro e w' ⟨rfl, rfl⟩
      go_wp2_with fail
      go_ret2
      exact ⟨ret_u8_bool (by rw [HE.out]) rfl, rfl⟩
    · have hb := not_one (fun h => hx (inv_uniq a x h) : tm a x ≠ 1)
      have hlt2 : j + 1 ≤ (inv a).toNat := by
        have : x.toNat ≠ (inv a).toNat := fun h => hx (UInt8.toNat_inj.1 h)
        omega
      have H2 := Lib.hid hlt2
      clear hx hxj hj hlt2
      go_wp2_with fail
      with_reducible refine (rMul_at a x j HX.out _).mono ?_
      rintro e w' ⟨rfl, rfl⟩
      go_wp2_with fail
      go_roundw
      case rel => exact ⟨j + 1, H2.out, by go_num, trivial⟩
      case measure => simp [intOf]; omega
set_option maxRecDepth 20000 in
set_option maxHeartbeats 1000000 in
theorem rInv_z (a : UInt8) (ha : a = 0) (w : World) : Calls Tryz.prog 69 #[.int .u8 a.toNat] w fun e w' => e = .returned (.tuple #[.int .u8 0, .bool false]) ∧ w = w' := by
  have HA := Lib.hid ha
  clear ha
  go_enter Tryz.func69, Tryz.ntmps69
  go_wp2_with fail
  go_loopw [4] (fun i wr => ∃ (j : Nat), j ≤ 256 ∧ i = .int .i64 j ∧ wr = w) (fun i _ => 256 - (intOf i).toNat)
  case atStart => exact ⟨1, by omega, rfl, rfl⟩
  case round =>
    obtain ⟨j, hj, rfl, rfl⟩ := hrel
    by_cases hlt : j < 256
    · obtain ⟨x, hxj⟩ := byte_of j (by omega)
      have HX := Lib.hid hxj
      have hb := not_one (by rw [HA.out, zero_tm]; decide : tm a x ≠ 1)
      clear hxj
      go_wp2_with fail
      with_reducible refine (rMul_at a x j HX.out _).mono ?_
      rintro e w' ⟨rfl, rfl⟩
      go_wp2_with fail
      go_roundw
      case rel => exact ⟨j + 1, by omega, by go_num, trivial⟩
      case measure => simp [intOf]; omega
    · obtain rfl : j = 256 := by omega
      go_wp2_with fail
      go_ret2
      exact ⟨rfl, rfl⟩
theorem rInv_any (a : UInt8) (w : World) : Calls Tryz.prog 69 #[.int .u8 a.toNat] w fun e w' => e = .returned (.tuple #[.int .u8 (inv a).toNat, .bool (nzB a)]) ∧ w = w' := by
  rw [nzB_eq]
  by_cases h : a = 0
  · have := rInv_z a h w
    rw [show (inv a).toNat = 0 by rw [h, inv_zero]; rfl, show decide (a ≠ 0) = false by simp [h]]; exact this
  · rw [show decide (a ≠ 0) = true by simp [h]]; exact rInv_nz a h w
theorem low255 {n : Int} (h : n.tmod 255 < 0) : n.tmod 255 = (lt255 n : Int) - 255 := by
  have := Int.lt_tmod_of_pos n (b := 255) (by decide)
  have h3 : n = 255 * n.tdiv 255 + n.tmod 255 := (Int.mul_tdiv_add_tmod n 255).symm
  unfold lt255
  omega
theorem high255 {n : Int} (h : ¬ n.tmod 255 < 0) : n.tmod 255 = (lt255 n : Int) := by
  have := Int.tmod_lt_of_pos n (b := 255) (by decide)
  have h3 : n = 255 * n.tdiv 255 + n.tmod 255 := (Int.mul_tdiv_add_tmod n 255).symm
  unfold lt255
  omega
end Go.Proofs.YteanbflbclmeeaaGreat

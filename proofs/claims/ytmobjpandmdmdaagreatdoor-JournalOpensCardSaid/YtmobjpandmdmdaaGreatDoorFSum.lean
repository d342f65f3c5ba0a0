/- The walks of layer 3's sums, the program's and the document's. -/
import Derived.Test.YtmobjpandmdmdaaGreatDoorFBase
namespace Go.Proofs.YtmobjpandmdmdaaGreatDoor
open Go.RowKit

theorem f_low (x : UInt32) : bits .and .u32 (x.toNat : Int) 1 = ((Fr.low x).toNat : Int) := by
  have h := fold_and x 1
  rw [show ((1 : UInt32).toNat : Int) = 1 from rfl] at h
  rw [h]; unfold Fr.low; rfl
theorem f_half (x : UInt32) : (x.toNat : Int) / 2 = ((Fr.half x).toNat : Int) := by
  unfold Fr.half
  rw [UInt32.toNat_shiftRight]
  rw [show (1 : UInt32).toNat % 32 = 1 from rfl, Nat.shiftRight_eq_div_pow]; omega
theorem f_tap (x : UInt32) : bits .xor .u32 (x.toNat : Int) 2197175160 = ((Fr.tap x).toNat : Int) := by
  have h := fold_xor x 2197175160
  rw [show ((2197175160 : UInt32).toNat : Int) = 2197175160 from rfl] at h
  rw [h]; unfold Fr.tap; rfl
theorem f_mix (x : UInt32) (c : UInt8) : bits .xor .u32 (x.toNat : Int) ((c.toNat : Int) % 4294967296) = ((Fr.mix x c).toNat : Int) := by
  rw [fold_ofNat, fold_xor]; unfold Fr.mix; rfl
theorem f_nt (x : UInt32) : bits .xor .u32 4294967295 (x.toNat : Int) = ((Fr.nt x).toNat : Int) := by
  rw [fold_not]; unfold Fr.nt; rfl
theorem f_nt' (x : UInt32) : bits .xor .u32 IntKind.u32.max (x.toNat : Int) = ((Fr.nt x).toNat : Int) := f_nt x
theorem f_xr (x y : UInt32) : bits .xor .u32 (x.toNat : Int) (y.toNat : Int) = ((Fr.xr x y).toNat : Int) := by
  rw [fold_xor]; unfold Fr.xr; rfl
theorem f_signed : IntKind.u32.signed = false := rfl
theorem low0 {x : UInt32} (h : Fr.low x = 0) : (((Fr.low x).toNat : Int) == 0) = true := by rw [h]; rfl
theorem low1 {x : UInt32} (h : ¬ Fr.low x = 0) : (((Fr.low x).toNat : Int) == 0) = false := by
  rw [beq_eq_false_iff_ne]; intro e; exact h (UInt32.toNat.inj (by rw [show (0 : UInt32).toNat = 0 from rfl]; omega))
theorem low0' {x : UInt32} (h : Fr.low x = 0) : (((Fr.low x).toNat : Int) == 1) = false := by rw [h]; rfl
theorem low1' {x : UInt32} (h : ¬ Fr.low x = 0) : (((Fr.low x).toNat : Int) == 1) = true := by
  rcases Fr.low_or x with h0 | h1
  · exact absurd h0 h
  · rw [h1]; rfl
attribute [local go_sem high] f_low f_half f_tap f_mix f_nt f_nt' f_xr f_signed run_index_byte

set_option maxHeartbeats 1000000 in
theorem take_any (x : UInt32) (c : UInt8) (w : World) : Calls Tryz.prog 103 #[.int .u32 x.toNat, .int .u8 c.toNat] w fun e w' => e = .returned (.int .u32 (Fr.take x c).toNat) ∧ w = w' := by
  have HE := Lib.hid (Fr.take_eq x c)
  go_enter Tryz.func103, Tryz.ntmps103
  go_wp2_with fail
  obtain ⟨y, hy⟩ : ∃ y, y = Fr.mix x c := ⟨_, rfl⟩
  rw [← hy]
  have HY := Lib.hid hy
  clear hy
  go_loopw [0, 10] (fun r i wr => ∃ j : Nat, j ≤ 8 ∧ i = .int .i64 j ∧ r = .int .u32 (Fr.steps j y).toNat ∧ wr = w) (fun _ i _ => 8 - (intOf i).toNat)
  case atStart => exact ⟨0, by omega, rfl, rfl, rfl⟩
  case round =>
    obtain ⟨j, hj, rfl, rfl, rfl⟩ := hrel
    by_cases hlt : j < 8
    · obtain ⟨r, hr⟩ : ∃ r, r = Fr.steps j y := ⟨_, rfl⟩
      rw [← hr]
      by_cases h0 : Fr.low r = 0
      · have hb := low0 h0
        have HS := Lib.hid (Fr.step_0 h0)
        have HR := Lib.hid hr
        clear h0 hr
        go_wp2_with fail
        go_roundw
        case rel => exact ⟨j + 1, by omega, by go_num, by rw [Fr.steps_succ, ← HR.out, HS.out], trivial⟩
        case measure => simp [intOf]; omega
      · have hb := low1 h0
        have HS := Lib.hid (Fr.step_1 h0)
        have HR := Lib.hid hr
        clear h0 hr
        go_wp2_with fail
        go_roundw
        case rel => exact ⟨j + 1, by omega, by go_num, by rw [Fr.steps_succ, ← HR.out, HS.out], trivial⟩
        case measure => simp [intOf]; omega
    · obtain rfl : j = 8 := by omega
      go_wp2_with fail
      go_ret
      exact ⟨by rw [← HE.out, ← HY.out]; rfl, rfl⟩
set_option maxHeartbeats 1000000 in
theorem Shift_any (x : UInt32) (c : UInt8) (w : World) : Calls Tryz.prog 74 #[.int .u32 x.toNat, .int .u8 c.toNat] w fun e w' => e = .returned (.int .u32 (Fr.take x c).toNat) ∧ w = w' := by
  have HE := Lib.hid (Fr.take_eq x c)
  go_enter Tryz.func74, Tryz.ntmps74
  go_wp2_with fail
  obtain ⟨y, hy⟩ : ∃ y, y = Fr.mix x c := ⟨_, rfl⟩
  rw [← hy]
  have HY := Lib.hid hy
  clear hy
  go_loopw [0, 5] (fun r i wr => ∃ j : Nat, j ≤ 8 ∧ i = .int .i64 j ∧ r = .int .u32 (Fr.steps j y).toNat ∧ wr = w) (fun _ i _ => 8 - (intOf i).toNat)
  case atStart => exact ⟨0, by omega, rfl, rfl, rfl⟩
  case round =>
    obtain ⟨j, hj, rfl, rfl, rfl⟩ := hrel
    by_cases hlt : j < 8
    · obtain ⟨r, hr⟩ : ∃ r, r = Fr.steps j y := ⟨_, rfl⟩
      rw [← hr]
      by_cases h0 : Fr.low r = 0
      · have hb := low0' h0
        have HS := Lib.hid (Fr.step_0 h0)
        have HR := Lib.hid hr
        clear h0 hr
        go_wp2_with fail
        go_roundw
        case rel => exact ⟨j + 1, by omega, by go_num, by rw [Fr.steps_succ, ← HR.out, HS.out], trivial⟩
        case measure => simp [intOf]; omega
      · have hb := low1' h0
        have HS := Lib.hid (Fr.step_1 h0)
        have HR := Lib.hid hr
        clear h0 hr
        go_wp2_with fail
        go_roundw
        case rel => exact ⟨j + 1, by omega, by go_num, by rw [Fr.steps_succ, ← HR.out, HS.out], trivial⟩
        case measure => simp [intOf]; omega
    · obtain rfl : j = 8 := by omega
      go_wp2_with fail
      go_ret
      exact ⟨by rw [← HE.out, ← HY.out]; rfl, rfl⟩
theorem run_at (x : UInt32) (s : ByteArray) (j : Nat) (h : j < s.size) : Fr.take (Fr.run x (s.data.toList.take j)) (strAt s j) = Fr.run x (s.data.toList.take (j + 1)) := by
  have hl := size_toList s
  rw [List.take_succ_eq_append_getElem (by omega), Fr.run_snoc, strAt_eq, List.getD, List.getElem?_eq_getElem (by omega)]; rfl
theorem run_at0 (x : UInt32) (s : ByteArray) : Fr.run x (s.data.toList.take 0) = x := by rw [List.take_zero, Fr.run_nil]
theorem run_end (x : UInt32) (s : ByteArray) : Fr.run x (s.data.toList.take s.size) = Fr.run x s.data.toList := by rw [List.take_of_length_le (by rw [size_toList]; omega)]
set_option maxHeartbeats 1000000 in
theorem More_any (x : UInt32) (s : ByteArray) (hs : s.size ≤ 300000000000000) (w : World) : Calls Tryz.prog 98 #[.int .u32 x.toNat, .string s] w fun e w' => e = .returned (.int .u32 (Fr.more x s.data.toList).toNat) ∧ w = w' := by
  have HE := Lib.hid (Fr.more_eq x s.data.toList)
  go_enter Tryz.func98, Tryz.ntmps98
  go_wp2_with fail
  obtain ⟨y, hy⟩ : ∃ y, y = Fr.nt x := ⟨_, rfl⟩
  rw [← hy]
  have HY := Lib.hid hy
  clear hy
  go_loopw [5, 11] (fun r i wr => ∃ j : Nat, j ≤ s.size ∧ i = .int .i64 j ∧ r = .int .u32 (Fr.run y (s.data.toList.take j)).toNat ∧ wr = w) (fun _ i _ => s.size - (intOf i).toNat)
  case atStart => exact ⟨0, by omega, rfl, by rw [run_at0], rfl⟩
  case round =>
    obtain ⟨j, hj, rfl, rfl, rfl⟩ := hrel
    by_cases hlt : j < s.size
    · go_wp2_with (go_at_call 103; refine (take_any _ _ _).mono ?_; rintro e w' ⟨rfl, rfl⟩)
      go_roundw
      case rel => exact ⟨j + 1, by omega, by go_num, by rw [run_at _ _ _ hlt], trivial⟩
      case measure => simp [intOf]; omega
    · obtain rfl : j = s.size := by omega
      go_wp2_with fail
      go_ret
      exact ⟨by rw [HE.out, run_end, HY.out]; rfl, rfl⟩
set_option maxHeartbeats 1000000 in
theorem rMore_any (x : UInt32) (s : ByteArray) (hs : s.size ≤ 300000000000000) (w : World) : Calls Tryz.prog 49 #[.int .u32 x.toNat, .string s] w fun e w' => e = .returned (.int .u32 (Fr.more x s.data.toList).toNat) ∧ w = w' := by
  have HE := Lib.hid (Fr.more_eq x s.data.toList)
  go_enter Tryz.func49, Tryz.ntmps49
  go_wp2_with fail
  obtain ⟨y, hy⟩ : ∃ y, y = Fr.nt x := ⟨_, rfl⟩
  rw [← hy]
  have HY := Lib.hid hy
  clear hy
  go_loopw [5, 6] (fun r i wr => ∃ j : Nat, j ≤ s.size ∧ i = .int .i64 j ∧ r = .int .u32 (Fr.run y (s.data.toList.take j)).toNat ∧ wr = w) (fun _ i _ => s.size - (intOf i).toNat)
  case atStart => exact ⟨0, by omega, rfl, by rw [run_at0], rfl⟩
  case round =>
    obtain ⟨j, hj, rfl, rfl, rfl⟩ := hrel
    by_cases hlt : j < s.size
    · go_wp2_with (go_at_call 74; refine (Shift_any _ _ _).mono ?_; rintro e w' ⟨rfl, rfl⟩)
      go_roundw
      case rel => exact ⟨j + 1, by omega, by go_num, by rw [run_at _ _ _ hlt], trivial⟩
      case measure => simp [intOf]; omega
    · obtain rfl : j = s.size := by omega
      go_wp2_with fail
      go_ret
      exact ⟨by rw [HE.out, run_end, HY.out]; rfl, rfl⟩
theorem Sum_any (s : ByteArray) (hs : s.size ≤ 300000000000000) (w : World) : Calls Tryz.prog 99 #[.string s] w fun e w' => e = .returned (.int .u32 (Fr.sum s.data.toList).toNat) ∧ w = w' := by
  rw [← Fr.sum_eq]
  go_enter Tryz.func99, Tryz.ntmps99
  go_wp2_with (go_at_call 98; refine (More_any 0 s hs _).mono ?_; rintro e w' ⟨rfl, rfl⟩)
  go_ret
  exact ⟨rfl, rfl⟩
theorem rSum_any (s : ByteArray) (hs : s.size ≤ 300000000000000) (w : World) : Calls Tryz.prog 27 #[.string s] w fun e w' => e = .returned (.int .u32 (Fr.sum s.data.toList).toNat) ∧ w = w' := by
  rw [← Fr.sum_eq]
  go_enter Tryz.func27, Tryz.ntmps27
  go_wp2_with (go_at_call 49; refine (rMore_any 0 s hs _).mono ?_; rintro e w' ⟨rfl, rfl⟩)
  go_ret
  exact ⟨rfl, rfl⟩
theorem run_zero (x : UInt32) (j : Nat) : Fr.take (Fr.run x (Fr.zero j)) 0 = Fr.run x (Fr.zero (j + 1)) := by rw [Fr.zero_succ, Fr.run_snoc]
theorem run_zero0 (x : UInt32) : Fr.run x (Fr.zero 0) = x := by
  rw [show Fr.zero 0 = [] from by unfold Fr.zero; rfl, Fr.run_nil]
theorem take0_any (x : UInt32) (w : World) : Calls Tryz.prog 103 #[.int .u32 x.toNat, .int .u8 0] w fun e w' => e = .returned (.int .u32 (Fr.take x 0).toNat) ∧ w = w' := take_any x 0 w
theorem Shift0_any (x : UInt32) (w : World) : Calls Tryz.prog 74 #[.int .u32 x.toNat, .int .u8 0] w fun e w' => e = .returned (.int .u32 (Fr.take x 0).toNat) ∧ w = w' := Shift_any x 0 w
end Go.Proofs.YtmobjpandmdmdaaGreatDoor

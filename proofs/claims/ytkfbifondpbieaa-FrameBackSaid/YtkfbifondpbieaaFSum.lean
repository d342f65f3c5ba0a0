/- The walks of layer 3's sums, the program's and the document's. -/
import Derived.Test.YtkfbifondpbieaaFBase
namespace Go.Proofs.Ytkfbifondpbieaa
open Go.RowKit

theorem f_low (x : UInt32) : bits .and .u32 (x.toNat : Int) 1 = ((Fr.low x).toNat : Int) := by
  have h := fold_and x 1
  rw [show ((1 : UInt32).toNat : Int) = 1 from rfl] at h
  rw [h]; unfold Fr.low; rfl
theorem f_half (x : UInt32) : (x.toNat : Int) / 2 = ((Fr.half x).toNat : Int) := by
  unfold Fr.half
  rw [UInt32.toNat_shiftRight]
  rw [show (1 : UInt32).toNat % 32 = 1 from rfl, Nat.shiftRight_eq_div_pow]; omega
theorem f_tap (x : UInt32) : bits .xor .u32 (x.toNat : Int) 2197175160 = ((Fr.tap x).toNat : Int) := by
  have h := fold_xor x 2197175160
  rw [show ((2197175160 : UInt32).toNat : Int) = 2197175160 from rfl] at h
  rw [h]; unfold Fr.tap; rfl
theorem f_mix (x : UInt32) (c : UInt8) : bits .xor .u32 (x.toNat : Int) ((c.toNat : Int) % 4294967296) = ((Fr.mix x c).toNat : Int) := by
  rw [fold_ofNat, fold_xor]; unfold Fr.mix; rfl
theorem f_nt (x : UInt32) : bits .xor .u32 4294967295 (x.toNat : Int) = ((Fr.nt x).toNat : Int) := by
  rw [fold_not]; unfold Fr.nt; rfl
theorem f_nt' (x : UInt32) : bits .xor .u32 IntKind.u32.max (x.toNat : Int) = ((Fr.nt x).toNat : Int) := f_nt x
theorem f_xr (x y : UInt32) : bits .xor .u32 (x.toNat : Int) (y.toNat : Int) = ((Fr.xr x y).toNat : Int) := by
  rw [fold_xor]; unfold Fr.xr; rfl
theorem f_signed : IntKind.u32.signed = false := rfl
theorem low0 {x : UInt32} (h : Fr.low x = 0) : (((Fr.low x).toNat : Int) == 0) = true := by rw [h]; rfl
theorem low1 {x : UInt32} (h : ¬ Fr.low x = 0) : (((Fr.low x).toNat : Int) == 0) = false := by
  rw [beq_eq_false_iff_ne]; intro e; exact h (UInt32.toNat.inj (by rw [show (0 : UInt32).toNat = 0 from rfl]; omega))
theorem low0' {x : UInt32} (h : Fr.low x = 0) : (((Fr.low x).toNat : Int) == 1) = false := by rw [h]; rfl
theorem low1' {x : UInt32} (h : ¬ Fr.low x = 0) : (((Fr.low x).toNat : Int) == 1) = true := by
  rcases Fr.low_or x with h0 | h1
  · exact absurd h0 h
  · rw [h1]; rfl
attribute [local go_sem high] f_low f_half f_tap f_mix f_nt f_nt' f_xr f_signed run_index_byte

set_option maxHeartbeats 1000000 in
theorem take_any (x : UInt32) (c : UInt8) (w : World) : Calls Try.prog 24 #[.int .u32 x.toNat, .int .u8 c.toNat] w fun e w' => e = .returned (.int .u32 (Fr.take x c).toNat) ∧ w = w' := by
  have HE := Lib.hid (Fr.take_eq x c)
  go_enter Try.func24, Try.ntmps24
  go_wp2_with fail
  obtain ⟨y, hy⟩ : ∃ y, y = Fr.mix x c := ⟨_, rfl⟩
  rw [← hy]
  have HY := Lib.hid hy
  clear hy
  go_loopw [0, 10] (fun r i wr => ∃ j : Nat, j ≤ 8 ∧ i = .int .i64 j ∧ r = .int .u32 (Fr.steps j y).toNat ∧ wr = w) (fun _ i _ => 8 - (intOf i).toNat)
  case atStart => exact ⟨0, by omega, rfl, rfl, rfl⟩
  case round =>
    obtain ⟨j, hj, rfl, rfl, rfl⟩ := hrel
    by_cases hlt : j < 8
    · obtain ⟨r, hr⟩ : ∃ r, r = Fr.steps j y := ⟨_, rfl⟩
      rw [← hr]
      by_cases h0 : Fr.low r = 0
      · have hb := low0 h0
        have HS := Lib.hid (Fr.step_0 h0)
        have HR := Lib.hid hr
        clear h0 hr
        go_wp2_with fail
        go_roundw
        case rel => exact ⟨j + 1, by omega, by go_num, by rw [Fr.steps_succ, ← HR.out, HS.out], trivial⟩
        case measure => simp [intOf]; omega
      · have hb := low1 h0
        have HS := Lib.hid (Fr.step_1 h0)
        have HR := Lib.hid hr
        clear h0 hr
        go_wp2_with fail
        go_roundw
        case rel => exact ⟨j + 1, by omega, by go_num, by rw [Fr.steps_succ, ← HR.out, HS.out], trivial⟩
        case measure => simp [intOf]; omega
    · obtain rfl : j = 8 := by omega
      go_wp2_with fail
      go_ret
      exact ⟨by rw [← HE.out, ← HY.out]; rfl, rfl⟩
set_option maxHeartbeats 1000000 in
theorem Shift_any (x : UInt32) (c : UInt8) (w : World) : Calls Try.prog 25 #[.int .u32 x.toNat, .int .u8 c.toNat] w fun e w' => e = .returned (.int .u32 (Fr.take x c).toNat) ∧ w = w' := by
  have HE := Lib.hid (Fr.take_eq x c)
  go_enter Try.func25, Try.ntmps25
  go_wp2_with fail
  obtain ⟨y, hy⟩ : ∃ y, y = Fr.mix x c := ⟨_, rfl⟩
  rw [← hy]
  have HY := Lib.hid hy
  clear hy
  go_loopw [0, 5] (fun r i wr => ∃ j : Nat, j ≤ 8 ∧ i = .int .i64 j ∧ r = .int .u32 (Fr.steps j y).toNat ∧ wr = w) (fun _ i _ => 8 - (intOf i).toNat)
  case atStart => exact ⟨0, by omega, rfl, rfl, rfl⟩
  case round =>
    obtain ⟨j, hj, rfl, rfl, rfl⟩ := hrel
    by_cases hlt : j < 8
    · obtain ⟨r, hr⟩ : ∃ r, r = Fr.steps j y := ⟨_, rfl⟩
      rw [← hr]
      by_cases h0 : Fr.low r = 0
      · have hb := low0' h0
        have HS := Lib.hid (Fr.step_0 h0)
        have HR := Lib.hid hr
        clear h0 hr
        go_wp2_with fail
        go_roundw
        case rel => exact ⟨j + 1, by omega, by go_num, by rw [Fr.steps_succ, ← HR.out, HS.out], trivial⟩
        case measure => simp [intOf]; omega
      · have hb := low1' h0
        have HS := Lib.hid (Fr.step_1 h0)
        have HR := Lib.hid hr
        clear h0 hr
        go_wp2_with fail
        go_roundw
        case rel => exact ⟨j + 1, by omega, by go_num, by rw [Fr.steps_succ, ← HR.out, HS.out], trivial⟩
        case measure => simp [intOf]; omega
    · obtain rfl : j = 8 := by omega
      go_wp2_with fail
      go_ret
      exact ⟨by rw [← HE.out, ← HY.out]; rfl, rfl⟩
theorem run_at (x : UInt32) (s : ByteArray) (j : Nat) (h : j < s.size) : Fr.take (Fr.run x (s.data.toList.take j)) (strAt s j) = Fr.run x (s.data.toList.take (j + 1)) := by
  have hl := size_toList s
  rw [List.take_succ_eq_append_getElem (by omega), Fr.run_snoc, strAt_eq, List.getD, List.getElem?_eq_getElem (by omega)]; rfl
theorem run_at0 (x : UInt32) (s : ByteArray) : Fr.run x (s.data.toList.take 0) = x := by rw [List.take_zero, Fr.run_nil]
theorem run_end (x : UInt32) (s : ByteArray) : Fr.run x (s.data.toList.take s.size) = Fr.run x s.data.toList := by rw [List.take_of_length_le (by rw [size_toList]; omega)]
set_option maxHeartbeats 1000000 in
theorem More_any (x : UInt32) (s : ByteArray) (hs : s.size ≤ 300000000000000) (w : World) : Calls Try.prog 13 #[.int .u32 x.toNat, .string s] w fun e w' => e = .returned (.int .u32 (Fr.more x s.data.toList).toNat) ∧ w = w' := by
  have HE := Lib.hid (Fr.more_eq x s.data.toList)
  go_enter Try.func13, Try.ntmps13
  go_wp2_with fail
  obtain ⟨y, hy⟩ : ∃ y, y = Fr.nt x := ⟨_, rfl⟩
  rw [← hy]
  have HY := Lib.hid hy
  clear hy
  go_loopw [5, 11] (fun r i wr => ∃ j : Nat, j ≤ s.size ∧ i = .int .i64 j ∧ r = .int .u32 (Fr.run y (s.data.toList.take j)).toNat ∧ wr = w) (fun _ i _ => s.size - (intOf i).toNat)
  case atStart => exact ⟨0, by omega, rfl, by rw [run_at0], rfl⟩
  case round =>
    obtain ⟨j, hj, rfl, rfl, rfl⟩ := hrel
    by_cases hlt : j < s.size
    · go_wp2_with (go_at_call 24; refine (take_any _ _ _).mono ?_; rintro e w' ⟨rfl, rfl⟩)
      go_roundw
      case rel => exact ⟨j + 1, by omega, by go_num, by rw [run_at _ _ _ hlt], trivial⟩
      case measure => simp [intOf]; omega
    · obtain rfl : j = s.size := by omega
      go_wp2_with fail
      go_ret
      exact ⟨by rw [HE.out, run_end, HY.out]; rfl, rfl⟩
set_option maxHeartbeats 1000000 in
theorem rMore_any (x : UInt32) (s : ByteArray) (hs : s.size ≤ 300000000000000) (w : World) : Calls Try.prog 14 #[.int .u32 x.toNat, .string s] w fun e w' => e = .returned (.int .u32 (Fr.more x s.data.toList).toNat) ∧ w = w' := by
  have HE := Lib.hid (Fr.more_eq x s.data.toList)
  go_enter Try.func14, Try.ntmps14
  go_wp2_with fail
  obtain ⟨y, hy⟩ : ∃ y, y = Fr.nt x := ⟨_, rfl⟩
  rw [← hy]
  have HY := Lib.hid hy
  clear hy
  go_loopw [5, 6] (fun r i wr => ∃ j : Nat, j ≤ s.size ∧ i = .int .i64 j ∧ r = .int .u32 (Fr.run y (s.data.toList.take j)).toNat ∧ wr = w) (fun _ i _ => s.size - (intOf i).toNat)
  case atStart => exact ⟨0, by omega, rfl, by rw [run_at0], rfl⟩
  case round =>
    obtain ⟨j, hj, rfl, rfl, rfl⟩ := hrel
    by_cases hlt : j < s.size
    · go_wp2_with (go_at_call 25; refine (Shift_any _ _ _).mono ?_; rintro e w' ⟨rfl, rfl⟩)
      go_roundw
      case rel => exact ⟨j + 1, by omega, by go_num, by rw [run_at _ _ _ hlt], trivial⟩
      case measure => simp [intOf]; omega
    · obtain rfl : j = s.size := by omega
      go_wp2_with fail
      go_ret
      exact ⟨by rw [HE.out, run_end, HY.out]; rfl, rfl⟩
theorem Sum_any (s : ByteArray) (hs : s.size ≤ 300000000000000) (w : World) : Calls Try.prog 11 #[.string s] w fun e w' => e = .returned (.int .u32 (Fr.sum s.data.toList).toNat) ∧ w = w' := by
  rw [← Fr.sum_eq]
  go_enter Try.func11, Try.ntmps11
  go_wp2_with (go_at_call 13; refine (More_any 0 s hs _).mono ?_; rintro e w' ⟨rfl, rfl⟩)
  go_ret
  exact ⟨rfl, rfl⟩
theorem rSum_any (s : ByteArray) (hs : s.size ≤ 300000000000000) (w : World) : Calls Try.prog 12 #[.string s] w fun e w' => e = .returned (.int .u32 (Fr.sum s.data.toList).toNat) ∧ w = w' := by
  rw [← Fr.sum_eq]
  go_enter Try.func12, Try.ntmps12
  go_wp2_with (go_at_call 14; refine (rMore_any 0 s hs _).mono ?_; rintro e w' ⟨rfl, rfl⟩)
  go_ret
  exact ⟨rfl, rfl⟩
/-- What Join tells, of any number. -/
def joinOf (a b : UInt32) (n : Int) : UInt32 := if n < 0 ∨ 60000 < n then 0 else Fr.join a b n.toNat
theorem run_zero (x : UInt32) (j : Nat) : Fr.take (Fr.run x (Fr.zero j)) 0 = Fr.run x (Fr.zero (j + 1)) := by rw [Fr.zero_succ, Fr.run_snoc]
theorem run_zero0 (x : UInt32) : Fr.run x (Fr.zero 0) = x := by
  rw [show Fr.zero 0 = [] from by unfold Fr.zero; rfl, Fr.run_nil]
theorem take0_any (x : UInt32) (w : World) : Calls Try.prog 24 #[.int .u32 x.toNat, .int .u8 0] w fun e w' => e = .returned (.int .u32 (Fr.take x 0).toNat) ∧ w = w' := take_any x 0 w
theorem Shift0_any (x : UInt32) (w : World) : Calls Try.prog 25 #[.int .u32 x.toNat, .int .u8 0] w fun e w' => e = .returned (.int .u32 (Fr.take x 0).toNat) ∧ w = w' := Shift_any x 0 w
set_option maxHeartbeats 1000000 in
theorem Join_in (a b : UInt32) (n : Nat) (hn : n ≤ 60000) (w : World) : Calls Try.prog 15 #[.int .u32 a.toNat, .int .u32 b.toNat, .int .i64 n] w fun e w' => e = .returned (.int .u32 (Fr.join a b n).toNat) ∧ w = w' := by
  have HE := Lib.hid (Fr.join_eq a b n)
  go_enter Try.func15, Try.ntmps15
  go_wp2_with fail
  go_loopw [7, 16] (fun r i wr => ∃ j : Nat, j ≤ n ∧ i = .int .i64 j ∧ r = .int .u32 (Fr.run a (Fr.zero j)).toNat ∧ wr = w) (fun _ i _ => n - (intOf i).toNat)
  case atStart => exact ⟨0, by omega, rfl, by rw [run_zero0], rfl⟩
  case round =>
    obtain ⟨j, hj, rfl, rfl, rfl⟩ := hrel
    by_cases hlt : j < n
    · go_wp2_with (go_at_call 24; refine (take0_any _ _).mono ?_; rintro e w' ⟨rfl, rfl⟩)
      go_roundw
      case rel => exact ⟨j + 1, by omega, by go_num, by rw [run_zero], trivial⟩
      case measure => simp [intOf]; omega
    · obtain rfl : j = n := by omega
      go_wp2_with fail
      go_ret
      exact ⟨by rw [HE.out]; rfl, rfl⟩
set_option maxHeartbeats 1000000 in
theorem rJoin_in (a b : UInt32) (n : Nat) (hn : n ≤ 60000) (w : World) : Calls Try.prog 16 #[.int .u32 a.toNat, .int .u32 b.toNat, .int .i64 n] w fun e w' => e = .returned (.int .u32 (Fr.join a b n).toNat) ∧ w = w' := by
  have HE := Lib.hid (Fr.join_eq a b n)
  go_enter Try.func16, Try.ntmps16
  go_wp2_with fail
  go_loopw [0, 7] (fun r i wr => ∃ j : Nat, j ≤ n ∧ i = .int .i64 j ∧ r = .int .u32 (Fr.run a (Fr.zero j)).toNat ∧ wr = w) (fun _ i _ => n - (intOf i).toNat)
  case atStart => exact ⟨0, by omega, rfl, by rw [run_zero0], rfl⟩
  case round =>
    obtain ⟨j, hj, rfl, rfl, rfl⟩ := hrel
    by_cases hlt : j < n
    · go_wp2_with (go_at_call 25; refine (Shift0_any _ _).mono ?_; rintro e w' ⟨rfl, rfl⟩)
      go_roundw
      case rel => exact ⟨j + 1, by omega, by go_num, by rw [run_zero], trivial⟩
      case measure => simp [intOf]; omega
    · obtain rfl : j = n := by omega
      go_wp2_with fail
      go_ret
      exact ⟨by rw [HE.out]; rfl, rfl⟩
theorem Join_low (a b : UInt32) (n : Int) (hn : n < 0) (w : World) : Calls Try.prog 15 #[.int .u32 a.toNat, .int .u32 b.toNat, .int .i64 n] w fun e w' => e = .returned (.int .u32 0) ∧ w = w' := by
  go_enter Try.func15, Try.ntmps15
  go_wp2_with fail
  go_ret
  exact ⟨rfl, rfl⟩
theorem Join_high (a b : UInt32) (n : Int) (hn : 60000 < n) (w : World) : Calls Try.prog 15 #[.int .u32 a.toNat, .int .u32 b.toNat, .int .i64 n] w fun e w' => e = .returned (.int .u32 0) ∧ w = w' := by
  go_enter Try.func15, Try.ntmps15
  go_wp2_with fail
  go_ret
  exact ⟨rfl, rfl⟩
theorem rJoin_low (a b : UInt32) (n : Int) (hn : n < 0) (w : World) : Calls Try.prog 16 #[.int .u32 a.toNat, .int .u32 b.toNat, .int .i64 n] w fun e w' => e = .returned (.int .u32 0) ∧ w = w' := by
  go_enter Try.func16, Try.ntmps16
  go_wp2_with fail
  go_ret
  exact ⟨rfl, rfl⟩
theorem rJoin_high (a b : UInt32) (n : Int) (hn : 60000 < n) (w : World) : Calls Try.prog 16 #[.int .u32 a.toNat, .int .u32 b.toNat, .int .i64 n] w fun e w' => e = .returned (.int .u32 0) ∧ w = w' := by
  go_enter Try.func16, Try.ntmps16
  go_wp2_with fail
  go_ret
  exact ⟨rfl, rfl⟩
theorem Join_any (a b : UInt32) (n : Int) (w : World) : Calls Try.prog 15 #[.int .u32 a.toNat, .int .u32 b.toNat, .int .i64 n] w fun e w' => e = .returned (.int .u32 (joinOf a b n).toNat) ∧ w = w' := by
  unfold joinOf
  by_cases h0 : n < 0
  · rw [if_pos (Or.inl h0)]; exact Join_low a b n h0 w
  · by_cases h1 : 60000 < n
    · rw [if_pos (Or.inr h1)]; exact Join_high a b n h1 w
    · rw [if_neg (by omega)]
      obtain ⟨m, rfl⟩ : ∃ m : Nat, n = m := ⟨n.toNat, by omega⟩
      rw [Int.toNat_natCast]
      exact Join_in a b m (by omega) w
theorem rJoin_any (a b : UInt32) (n : Int) (w : World) : Calls Try.prog 16 #[.int .u32 a.toNat, .int .u32 b.toNat, .int .i64 n] w fun e w' => e = .returned (.int .u32 (joinOf a b n).toNat) ∧ w = w' := by
  unfold joinOf
  by_cases h0 : n < 0
  · rw [if_pos (Or.inl h0)]; exact rJoin_low a b n h0 w
  · by_cases h1 : 60000 < n
    · rw [if_pos (Or.inr h1)]; exact rJoin_high a b n h1 w
    · rw [if_neg (by omega)]
      obtain ⟨m, rfl⟩ : ∃ m : Nat, n = m := ⟨n.toNat, by omega⟩
      rw [Int.toNat_natCast]
      exact rJoin_in a b m (by omega) w
end Go.Proofs.Ytkfbifondpbieaa

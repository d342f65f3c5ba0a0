/- The walks of layer 3's sums, the program's and the document's. -/
import Derived.Test.YtdimkgidaioolaaFBase
namespace Go.Proofs.Ytdimkgidaioolaa
open Go.RowKit

theorem f_low (x : UInt32) : bits .and .u32 (x.toNat : Int) 1 = ((Fr.low x).toNat : Int) := by
  have h := fold_and x 1
  rw [show ((1 : UInt32).toNat : Int) = 1 from rfl] at h
  rw [h]; unfold Fr.low; rfl
theorem f_half (x : UInt32) : (x.toNat : Int) / 2 = ((Fr.half x).toNat : Int) := by
  unfold Fr.half
  rw [UInt32.toNat_shiftRight]
  rw [show (1 : UInt32).toNat % 32 = 1 from rfl, Nat.shiftRight_eq_div_pow]; omega
theorem f_tap (x : UInt32) : bits .xor .u32 (x.toNat : Int) 2197175160 = ((Fr.tap x).toNat : Int) := by
  have h := fold_xor x 2197175160
  rw [show ((2197175160 : UInt32).toNat : Int) = 2197175160 from rfl] at h
  rw [h]; unfold Fr.tap; rfl
theorem f_mix (x : UInt32) (c : UInt8) : bits .xor .u32 (x.toNat : Int) ((c.toNat : Int) % 4294967296) = ((Fr.mix x c).toNat : Int) := by
  rw [fold_ofNat, fold_xor]; unfold Fr.mix; rfl
theorem f_nt (x : UInt32) : bits .xor .u32 4294967295 (x.toNat : Int) = ((Fr.nt x).toNat : Int) := by
  rw [fold_not]; unfold Fr.nt; rfl
theorem f_nt' (x : UInt32) : bits .xor .u32 IntKind.u32.max (x.toNat : Int) = ((Fr.nt x).toNat : Int) := f_nt x
theorem f_xr (x y : UInt32) : bits .xor .u32 (x.toNat : Int) (y.toNat : Int) = ((Fr.xr x y).toNat : Int) := by
  rw [fold_xor]; unfold Fr.xr; rfl
theorem f_signed : IntKind.u32.signed = false := rfl
theorem low0 {x : UInt32} (h : Fr.low x = 0) : (((Fr.low x).toNat : Int) == 0) = true := by rw [h]; rfl
theorem low1 {x : UInt32} (h : ¬ Fr.low x = 0) : (((Fr.low x).toNat : Int) == 0) = false := by
  rw [beq_eq_false_iff_ne]; intro e; exact h (UInt32.toNat.inj (by rw [show (0 : UInt32).toNat = 0 from rfl]; omega))
theorem low0' {x : UInt32} (h : Fr.low x = 0) : (((Fr.low x).toNat : Int) == 1) = false := by rw [h]; rfl
theorem low1' {x : UInt32} (h : ¬ Fr.low x = 0) : (((Fr.low x).toNat : Int) == 1) = true := by
  rcases Fr.low_or x with h0 | h1
  · exact absurd h0 h
  · rw [h1]; rfl
attribute [local go_sem high] f_low f_half f_tap f_mix f_nt f_nt' f_xr f_signed run_index_byte

theorem run_at (x : UInt32) (s : ByteArray) (j : Nat) (h : j < s.size) : Fr.take (Fr.run x (s.data.toList.take j)) (strAt s j) = Fr.run x (s.data.toList.take (j + 1)) := by
  have hl := size_toList s
  rw [List.take_succ_eq_append_getElem (by omega), Fr.run_snoc, strAt_eq, List.getD, List.getElem?_eq_getElem (by omega)]; rfl
theorem run_at0 (x : UInt32) (s : ByteArray) : Fr.run x (s.data.toList.take 0) = x := by rw [List.take_zero, Fr.run_nil]
theorem run_end (x : UInt32) (s : ByteArray) : Fr.run x (s.data.toList.take s.size) = Fr.run x s.data.toList := by rw [List.take_of_length_le (by rw [size_toList]; omega)]
theorem run_zero (x : UInt32) (j : Nat) : Fr.take (Fr.run x (Fr.zero j)) 0 = Fr.run x (Fr.zero (j + 1)) := by rw [Fr.zero_succ, Fr.run_snoc]
theorem run_zero0 (x : UInt32) : Fr.run x (Fr.zero 0) = x := by
  rw [show Fr.zero 0 = [] from by unfold Fr.zero; rfl, Fr.run_nil]
end Go.Proofs.Ytdimkgidaioolaa

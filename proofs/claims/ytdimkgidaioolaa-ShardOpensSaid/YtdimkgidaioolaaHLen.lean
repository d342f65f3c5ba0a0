/- The walks of the length in a head, and of what a text begins with. -/
import Derived.Test.YtdimkgidaioolaaHLeaf
namespace Go.Proofs.Ytdimkgidaioolaa
open Go.Shelf
def h_lays99_ren : Go.Shelf.Ren := ⟨fun | 99 => 26 | 206 => 37 | n => n, fun | 9 => 9 | 4 => 4 | 3 => 3 | n => n, fun | n => n⟩
theorem h_lays99 : Go.Proofs.Lays.n99 Try.prog h_lays99_ren := {
  mixed := by kernel_rfl
  f99 := Try.func26.trans (congrArg some (by kernel_rfl))
  f206 := Try.func37.trans (congrArg some (by kernel_rfl))
  t3 := Try.underlying3
  a3 := Try.isAgg3
  z3 := Try.sizeOf3
  v3 := Try.zeroValue3
  t4 := Try.underlying4
  a4 := Try.isAgg4
  z4 := Try.sizeOf4
  v4 := Try.zeroValue4
  t9 := Try.underlying9
  a9 := Try.isAgg9
  z9 := Try.sizeOf9
  v9 := Try.zeroValue9 }
open Go.RowKit
theorem HasPrefix_any (s p : ByteArray) (w : World) :
    Calls Try.prog 26 #[.string s, .string p] w fun e w' => e = .returned (.bool (Lib.hasPrefix s.data.toList p.data.toList)) ∧ w' = w := Any.strings_HasPrefix h_lays99 s p w
attribute [local go_sem high] run_index_byte
set_option maxRecDepth 100000 in
set_option maxHeartbeats 1000000 in
theorem lengthIn_short (s : ByteArray) (hs : s.size < 36) (w : World) : Calls Try.prog 25 #[.string s] w fun e w' => e = .returned (.tuple #[.int .i64 0, .bool false]) ∧ w = w' := by
  go_enter Try.func25, Try.ntmps25
  go_wp2
  go_ret2
  exact ⟨rfl, rfl⟩
theorem ofInt_i64 (a : Nat) (ha : a < 4611686018427387904) : (BitVec.ofInt 64 (a : Int)).toNat = a := by
  rw [BitVec.ofInt_natCast, BitVec.toNat_ofNat]; exact Nat.mod_eq_of_lt (by omega)
theorem i64_or_nat (a b : Nat) (ha : a < 4611686018427387904) (hb : b < 4611686018427387904) : bits .or .i64 (a : Int) (b : Int) = ((a ||| b : Nat) : Int) := by
  have hx : a ||| b < 2 ^ 62 := Nat.or_lt_two_pow (by omega) (by omega)
  show IntKind.i64.wrap ((BitVec.ofInt 64 (a : Int) ||| BitVec.ofInt 64 (b : Int)).toNat : Int) = _
  rw [BitVec.toNat_or, ofInt_i64 a ha, ofInt_i64 b hb]
  exact IntWalk.i64_in _ (by omega)
theorem or_shift_i64 (n : Nat) (c : UInt8) (h : n < 4294967296) : bits .or .i64 (wrap64 ((n : Int) * 256)) (wrap64 (c.toNat : Int)) = ((n * 256 + c.toNat : Nat) : Int) := by
  have hc := c.toNat_lt
  have e1 : wrap64 ((n : Int) * 256) = ((n * 256 : Nat) : Int) := by unfold wrap64; omega
  have e2 : wrap64 (c.toNat : Int) = (c.toNat : Int) := by unfold wrap64; omega
  rw [e1, e2, i64_or_nat _ _ (by omega) (by omega)]
  have := Nat.shiftLeft_add_eq_or_of_lt (i := 8) (b := c.toNat) (by omega) n
  rw [Nat.shiftLeft_eq] at this
  rw [← this]
/-- What lengthIn finds. -/
def lenFound (s : List UInt8) : Bool := decide (36 ≤ s.length ∧ Shd.lenOf s ≤ 10000 ∧ s.length = Shd.size (Shd.lenOf s))
set_option maxRecDepth 100000 in
set_option maxHeartbeats 1000000 in
theorem lengthIn_to (s : ByteArray) (hs : 36 ≤ s.size) (b : Bool) (N z : Nat) (hN : Fr.num (s.data.toList.take 4) = N) (w : World) (hb : ((z : Int) != (s.size : Int)) = !b)
    (hz : ∀ v : World, Calls Try.prog 11 #[.int .i64 N] v fun e w' => e = .returned (.int .i64 z) ∧ v = w') : Calls Try.prog 25 #[.string s] w fun e w' => e = .returned (.tuple #[.int .i64 (if b then (N : Int) else 0), .bool b]) ∧ w = w' := by
  have HZ := Lib.hid hz
  have HN := Lib.hid hN
  clear hz hN
  go_enter Try.func25, Try.ntmps25
  go_wp2_with fail
  go_loopw [4, 9] (fun r i wr => ∃ j : Nat, j ≤ 4 ∧ i = .int .i64 j ∧ r = .int .i64 (Fr.num (s.data.toList.take j)) ∧ wr = w) (fun _ i _ => 4 - (intOf i).toNat)
  case atStart => exact ⟨0, by omega, rfl, by rw [List.take_zero, Fr.num_nil]; rfl, rfl⟩
  case round =>
    obtain ⟨j, hj, rfl, rfl, rfl⟩ := hrel
    by_cases hlt : j < 4
    · obtain ⟨n, hn⟩ : ∃ n, n = Fr.num (s.data.toList.take j) := ⟨_, rfl⟩
      rw [← hn]
      have hjs : j < s.size := by omega
      go_wp2_with fail
      go_roundw
      case rel => exact ⟨j + 1, by omega, by go_num, (by rw [or_shift_i64 _ _ (by have := num_lt4 s.data.toList j (by omega); omega), List.take_succ_eq_append_getElem (by rw [size_toList]; omega), Fr.num_snoc, strAt_eq, List.getD, List.getElem?_eq_getElem (by rw [size_toList]; omega)]; rfl), trivial⟩
      case measure => simp [intOf]; omega
    · obtain rfl : j = 4 := by omega
      rw [HN.out]
      cases b with
      | true =>
        simp only [Bool.not_true] at hb
        go_wp2_with (go_at_call 11; refine (HZ.out _).mono ?_; rintro e w' ⟨rfl, rfl⟩)
        go_ret2
        exact ⟨rfl, rfl⟩
      | false =>
        simp only [Bool.not_false] at hb
        go_wp2_with (go_at_call 11; refine (HZ.out _).mono ?_; rintro e w' ⟨rfl, rfl⟩)
        go_ret2
        exact ⟨rfl, rfl⟩
theorem lengthIn_any (s : List UInt8) (w : World) : Calls Try.prog 25 #[.string (bs s)] w fun e w' => e = .returned (.tuple #[.int .i64 (if lenFound s then (Shd.lenOf s : Int) else 0), .bool (lenFound s)]) ∧ w = w' := by
  by_cases h1 : 36 ≤ s.length
  · have hs : 36 ≤ (bs s).size := by rw [bs_size]; exact h1
    have hN : Fr.num ((bs s).data.toList.take 4) = Shd.lenOf s := by rw [bs_list]; rfl
    by_cases h2 : Shd.lenOf s ≤ 10000
    · refine lengthIn_to (bs s) hs (lenFound s) _ (Shd.size (Shd.lenOf s)) hN w ?_ (fun v => Size_ok _ h2 v)
      rw [bs_size]
      by_cases h3 : s.length = Shd.size (Shd.lenOf s)
      · rw [show lenFound s = true from decide_eq_true ⟨h1, h2, h3⟩, ← h3]; simp
      · rw [show lenFound s = false from decide_eq_false (fun h => h3 h.2.2)]
        simp; omega
    · refine lengthIn_to (bs s) hs (lenFound s) _ 0 hN w ?_ (fun v => Size_bad _ (.inr (by omega)) v)
      rw [bs_size, show lenFound s = false from decide_eq_false (fun h => h2 h.2.1)]
      simp; omega
  · refine (lengthIn_short (bs s) (by rw [bs_size]; omega) w).mono ?_
    rintro e w' ⟨rfl, rfl⟩
    rw [show lenFound s = false from decide_eq_false (fun h => h1 h.1)]
    exact ⟨rfl, rfl⟩
end Go.Proofs.Ytdimkgidaioolaa

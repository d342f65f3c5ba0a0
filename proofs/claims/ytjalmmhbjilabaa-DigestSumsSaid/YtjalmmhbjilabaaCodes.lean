/- The walks of sixteenths. -/
import Derived.Test.YtjalmmhbjilabaaMac2
import Derived.Test.YtjalmmhbjilabaaCode
namespace Go.Proofs.Ytjalmmhbjilabaa
open Go.RowKit

theorem halfOf_digit (n : Nat) (h1 : 48 ≤ n) (h2 : n ≤ 57) (w : World) : Calls Try.prog 36 #[.int .u8 n] w fun e w' => e = .returned (.tuple #[.int .u8 ((n : Int) - 48), .bool true]) ∧ w = w' := by
  go_enter Try.func36, Try.ntmps36
  go_wp2
  go_ret2
  exact ⟨rfl, rfl⟩
theorem halfOf_letter (n : Nat) (h1 : 97 ≤ n) (h2 : n ≤ 102) (w : World) : Calls Try.prog 36 #[.int .u8 n] w fun e w' => e = .returned (.tuple #[.int .u8 ((n : Int) - 97 + 10), .bool true]) ∧ w = w' := by
  go_enter Try.func36, Try.ntmps36
  go_wp2
  go_ret2
  exact ⟨rfl, rfl⟩
theorem halfOf_none (n : Nat) (h0 : n < 256) (h1 : n < 48 ∨ 57 < n) (h2 : n < 97 ∨ 102 < n) (w : World) : Calls Try.prog 36 #[.int .u8 n] w fun e w' => e = .returned (.tuple #[.int .u8 0, .bool false]) ∧ w = w' := by
  go_enter Try.func36, Try.ntmps36
  go_wp2
  all_goals (go_ret2; exact ⟨rfl, rfl⟩)
theorem halfOf_yes (c : UInt8) (h : Dig.half c < 16) (w : World) : Calls Try.prog 36 #[.int .u8 c.toNat] w fun e w' => e = .returned (.tuple #[.int .u8 (Dig.half c), .bool true]) ∧ w = w' := by
  have h0 := c.toNat_lt
  rw [Dig.half_eq] at h ⊢
  unfold Dig.halfN at h ⊢
  by_cases h1 : 48 ≤ c.toNat ∧ c.toNat ≤ 57
  · rw [if_pos h1] at h ⊢
    refine (halfOf_digit _ h1.1 h1.2 w).mono ?_
    rintro e w' ⟨rfl, rfl⟩
    exact ⟨by rw [Int.natCast_sub h1.1]; rfl, rfl⟩
  · rw [if_neg h1] at h ⊢
    by_cases h2 : 97 ≤ c.toNat ∧ c.toNat ≤ 102
    · rw [if_pos h2] at h ⊢
      refine (halfOf_letter _ h2.1 h2.2 w).mono ?_
      rintro e w' ⟨rfl, rfl⟩
      refine ⟨?_, rfl⟩
      rw [show ((c.toNat - 87 : Nat) : Int) = (c.toNat : Int) - 97 + 10 from by omega]
    · rw [if_neg h2] at h; omega
theorem halfOf_no (c : UInt8) (h : Dig.half c = 16) (w : World) : Calls Try.prog 36 #[.int .u8 c.toNat] w fun e w' => e = .returned (.tuple #[.int .u8 0, .bool false]) ∧ w = w' := by
  have h0 := c.toNat_lt
  rw [Dig.half_eq] at h
  unfold Dig.halfN at h
  refine halfOf_none _ h0 ?_ ?_ w
  · split at h <;> omega
  · split at h; omega; split at h <;> omega
end Go.Proofs.Ytjalmmhbjilabaa

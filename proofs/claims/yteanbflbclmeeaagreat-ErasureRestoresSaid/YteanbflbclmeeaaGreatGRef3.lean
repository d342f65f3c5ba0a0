/- The walks of the document's own powers of 0 and logs. -/
import Derived.Test.YteanbflbclmeeaaGreatGRef2
namespace Go.Proofs.YteanbflbclmeeaaGreat
open Go.RowKit

theorem L_zero : L 0 = 0 := by unfold L; decide +kernel
theorem rMul_two (a : UInt8) (w : World) : Calls Tryz.prog 71 #[.int .u8 a.toNat, .int .u8 2] w fun e w' => e = .returned (.int .u8 (tm a 2).toNat) ∧ w = w' := rMul_any a 2 w
theorem E_succ (n : Nat) : tm (E n) 2 = E (n + 1) := by rw [← E_one, tm_E]
theorem eq_u8 {a b : UInt8} (h : a = b) : ((a.toNat : Int) == (b.toNat : Int)) = true := by rw [h]; simp
theorem ne_u8 {a b : UInt8} (h : a ≠ b) : ((a.toNat : Int) == (b.toNat : Int)) = false := by
  have : a.toNat ≠ b.toNat := fun e => h (UInt8.toNat_inj.1 e)
  simp; omega
end Go.Proofs.YteanbflbclmeeaaGreat

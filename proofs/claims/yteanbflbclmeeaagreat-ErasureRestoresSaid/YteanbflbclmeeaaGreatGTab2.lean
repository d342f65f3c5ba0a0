/- That the product of two polynomials, taken modulo 285, is the sum of doublings. No program is imported here. -/
import Derived.Test.YteanbflbclmeeaaGreatGTab
namespace Go.Proofs.YteanbflbclmeeaaGreat

def pstep (a b i p : Nat) : Nat := if b / 2 ^ i % 2 = 1 then p ^^^ a * 2 ^ i else p
def psum (a b : Nat) : Nat → Nat
  | 0 => 0
  | i + 1 => pstep a b i (psum a b i)
def rstep (i p : Nat) : Nat := if p / 2 ^ (i + 8) % 2 = 1 then p ^^^ 285 * 2 ^ i else p
def rred : Nat → Nat → Nat
  | 0, p => p
  | i + 1, p => rred i (rstep i p)
theorem rstep_bit (i p : Nat) : rstep i p = if p.testBit (i + 8) = true then p ^^^ 285 * 2 ^ i else p := by
  rw [rstep]; simp only [Nat.testBit_eq_decide_div_mod_eq, decide_eq_true_eq]
theorem rstep_xor (i p q : Nat) : rstep i (p ^^^ q) = rstep i p ^^^ rstep i q := by
  rw [rstep_bit, rstep_bit, rstep_bit, Nat.testBit_xor]
  generalize 285 * 2 ^ i = c
  cases p.testBit (i + 8) <;> cases q.testBit (i + 8) <;> simp
  · exact Nat.xor_assoc ..
  · rw [Nat.xor_assoc, Nat.xor_comm q c, ← Nat.xor_assoc]
  · rw [Nat.xor_assoc, Nat.xor_comm q c, ← Nat.xor_assoc c, Nat.xor_self, Nat.zero_xor]
theorem rred_xor (n : Nat) : ∀ p q, rred n (p ^^^ q) = rred n p ^^^ rred n q := by
  induction n with
  | zero => intro p q; rfl
  | succ n ih => intro p q; rw [rred, rred, rred, rstep_xor, ih]
theorem psum_red (a b j : Nat) : rred 8 (psum a b (j + 1)) = rred 8 (psum a b j) ^^^ rred 8 (a * 2 ^ j) * (b / 2 ^ j % 2) := by
  rw [psum, pstep]
  by_cases h : b / 2 ^ j % 2 = 1
  · rw [if_pos h, rred_xor, h, Nat.mul_one]
  · rw [if_neg h, show b / 2 ^ j % 2 = 0 by omega, Nat.mul_zero, Nat.xor_zero]
def dblI : Nat → Nat → Nat
  | 0, a => a
  | n + 1, a => dblN (dblI n a)
theorem red_tab : ∀ j < 8, ∀ a < 256, rred 8 (a * 2 ^ j) = dblI j a := by decide +kernel
theorem red_mul (a b : Nat) (ha : a < 256) : rred 8 (psum a b 8) = mulN a b := by
  rw [psum_red, psum_red, psum_red, psum_red, psum_red, psum_red, psum_red, psum_red]
  rw [red_tab 0 (by decide) a ha, red_tab 1 (by decide) a ha, red_tab 2 (by decide) a ha, red_tab 3 (by decide) a ha, red_tab 4 (by decide) a ha, red_tab 5 (by decide) a ha, red_tab 6 (by decide) a ha, red_tab 7 (by decide) a ha]
  rw [mulN, psum, show rred 8 0 = 0 from by decide +kernel]
  simp only [dblI, Nat.div_div_eq_div_mul]
  simp
theorem psum_lt (a b : Nat) (ha : a < 256) : ∀ j, j ≤ 8 → psum a b j < 2 ^ 16 := by
  intro j
  induction j with
  | zero => intro _; exact Nat.two_pow_pos 16
  | succ j ih =>
    intro hj
    have h := ih (by omega)
    rw [psum, pstep]
    split
    · have h2 : 2 ^ j ≤ 2 ^ 7 := Nat.pow_le_pow_right (by decide) (by omega)
      have h3 : a * 2 ^ j ≤ 255 * 2 ^ 7 := Nat.mul_le_mul (by omega) h2
      exact Nat.xor_lt_two_pow h (by omega)
    · exact h
theorem rstep_lt (i p : Nat) (hi : i < 8) (hp : p < 2 ^ 16) : rstep i p < 2 ^ 16 := by
  rw [rstep]
  split
  · have h2 : 2 ^ i ≤ 2 ^ 7 := Nat.pow_le_pow_right (by decide) (by omega)
    have h3 : 285 * 2 ^ i ≤ 285 * 2 ^ 7 := Nat.mul_le_mul (by omega) h2
    exact Nat.xor_lt_two_pow hp (by omega)
  · exact hp
end Go.Proofs.YteanbflbclmeeaaGreat

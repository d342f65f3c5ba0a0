/- The mathematics of CRC-32C: it is linear, and no two registers become one. No program is imported here. -/
import Derived.Test.YtkfbifondpbieaaFSpec
namespace Fr

theorem xor_nat (a b : UInt32) : (a ^^^ b).toNat = a.toNat ^^^ b.toNat := UInt32.toNat_xor a b
theorem half_nat (a : UInt32) : (half a).toNat = a.toNat / 2 := by
  unfold half
  rw [UInt32.toNat_shiftRight, show (1 : UInt32).toNat % 32 = 1 from rfl, Nat.shiftRight_eq_div_pow]
theorem half_xor (a b : UInt32) : half (a ^^^ b) = half a ^^^ half b := by
  apply UInt32.toNat.inj
  unfold half
  rw [xor_nat, UInt32.toNat_shiftRight, UInt32.toNat_shiftRight, UInt32.toNat_shiftRight, xor_nat, Nat.shiftRight_xor_distrib]
theorem low_xor (a b : UInt32) : low (a ^^^ b) = low a ^^^ low b := by
  apply UInt32.toNat.inj
  unfold low
  rw [xor_nat, UInt32.toNat_and, UInt32.toNat_and, UInt32.toNat_and, xor_nat, Nat.and_xor_distrib_right]
theorem tap_eq (a : UInt32) : tap a = a ^^^ 2197175160 := by unfold tap; rfl
theorem xor_self32 (a : UInt32) : a ^^^ a = 0 := UInt32.xor_self
theorem xor_zero32 (a : UInt32) : a ^^^ 0 = a := UInt32.xor_zero
theorem xor_assoc32 (a b c : UInt32) : a ^^^ b ^^^ c = a ^^^ (b ^^^ c) := UInt32.xor_assoc a b c
theorem xor_comm32 (a b : UInt32) : a ^^^ b = b ^^^ a := UInt32.xor_comm a b
/-- What a step adds when a bit leaves. -/
def add (r : UInt32) : UInt32 := if low r = 0 then 0 else 2197175160
theorem step_add (r : UInt32) : step r = half r ^^^ add r := by
  unfold add
  by_cases h : low r = 0
  · rw [step_0 h, if_pos h, xor_zero32]
  · rw [step_1 h, if_neg h, tap_eq]
theorem low_1 {r : UInt32} (h : ¬ low r = 0) : low r = 1 := by
  rcases low_or r with h0 | h1
  · exact absurd h0 h
  · exact h1
theorem add_xor (a b : UInt32) : add (a ^^^ b) = add a ^^^ add b := by
  unfold add
  rw [low_xor]
  by_cases ha : low a = 0
  · by_cases hb : low b = 0
    · rw [ha, hb]; rfl
    · rw [ha, low_1 hb]; rfl
  · by_cases hb : low b = 0
    · rw [hb, low_1 ha]; rfl
    · rw [low_1 ha, low_1 hb]; rfl
theorem swap4 (a b c d : UInt32) : (a ^^^ b) ^^^ (c ^^^ d) = (a ^^^ c) ^^^ (b ^^^ d) := by
  rw [xor_assoc32, ← xor_assoc32 b, xor_comm32 b c, xor_assoc32 c, ← xor_assoc32]
theorem step_xor (a b : UInt32) : step (a ^^^ b) = step a ^^^ step b := by
  rw [step_add, step_add, step_add, half_xor, add_xor, swap4]
theorem steps_xor (k : Nat) (a b : UInt32) : steps k (a ^^^ b) = steps k a ^^^ steps k b := by
  induction k with
  | zero => rfl
  | succ k ih => rw [steps_succ, steps_succ, steps_succ, ih, step_xor]
theorem mix_eq (r : UInt32) (c : UInt8) : mix r c = r ^^^ UInt32.ofNat c.toNat := by unfold mix; rfl
theorem take_steps (r : UInt32) (c : UInt8) : take r c = steps 8 r ^^^ steps 8 (UInt32.ofNat c.toNat) := by
  rw [← take_eq, mix_eq, steps_xor]
theorem take_zero' (r : UInt32) : take r 0 = steps 8 r := by
  rw [← take_eq, mix_eq, show UInt32.ofNat (0 : UInt8).toNat = 0 from rfl, xor_zero32]
theorem take_xor (a x : UInt32) (c : UInt8) : take (a ^^^ x) c = take a c ^^^ take x 0 := by
  rw [take_steps, take_steps, take_zero', steps_xor, xor_assoc32, xor_comm32 (steps 8 x), ← xor_assoc32]
theorem zero_cons (n : Nat) : zero (n + 1) = 0 :: zero n := by unfold zero; rfl
theorem run_xor (l : List UInt8) : ∀ a x : UInt32, run (a ^^^ x) l = run a l ^^^ run x (zero l.length) := by
  induction l with
  | nil => intro a x; rw [List.length_nil, show zero 0 = [] from by unfold zero; rfl, run_nil, run_nil, run_nil]
  | cons c l ih => intro a x; rw [List.length_cons, zero_cons, run_cons, run_cons, run_cons, take_xor, ih]
theorem nt_eq (a : UInt32) : nt a = a ^^^ 4294967295 := by
  unfold nt
  apply UInt32.eq_of_toBitVec_eq
  rw [UInt32.toBitVec_not, UInt32.toBitVec_xor]
  exact (BitVec.xor_allOnes).symm
theorem nt_nt (a : UInt32) : nt (nt a) = a := by rw [nt_eq, nt_eq, xor_assoc32, xor_self32, xor_zero32]
theorem join_sum (a b : List UInt8) : join (sum a) (sum b) b.length = sum (a ++ b) := by
  obtain ⟨A, hA⟩ : ∃ A, A = run (nt 0) a := ⟨_, rfl⟩
  have e : A = nt 0 ^^^ nt A := by rw [nt_eq 0, nt_eq A, swap4, xor_self32, xor_zero32, xor_comm32, xor_zero32]
  have h1 : sum a = nt A := by rw [← sum_eq, more_eq, hA]
  have h2 : sum (a ++ b) = nt (run A b) := by rw [← sum_eq, more_eq, run_append, hA]
  have h3 : sum b = nt (run (nt 0) b) := by rw [← sum_eq, more_eq]
  rw [join_eq, h1, h2, h3]
  conv => rhs; rw [e, run_xor]
  rw [show ∀ x y, xr x y = x ^^^ y from fun x y => by unfold xr; rfl]
  generalize run (nt A) (zero b.length) = U
  generalize run (nt 0) b = V
  rw [nt_eq, nt_eq, ← xor_assoc32, xor_comm32 U V]

/-! No two become one. -/
theorem xor_eq_zero {a b : UInt32} (h : a ^^^ b = 0) : a = b := by
  have : a ^^^ b ^^^ b = b := by rw [h, xor_comm32, xor_zero32]
  rwa [xor_assoc32, xor_self32, xor_zero32] at this
theorem low_nat (r : UInt32) : (low r).toNat = r.toNat % 2 := by
  unfold low
  rw [UInt32.toNat_and]
  exact Nat.and_two_pow_sub_one_eq_mod r.toNat 1
theorem step_eq_zero {x : UInt32} (h : step x = 0) : x = 0 := by
  rw [step_add] at h
  have h2 := xor_eq_zero h
  have hh := half_nat x
  have hl := low_nat x
  have hx := x.toNat_lt
  unfold add at h2
  by_cases h0 : low x = 0
  · rw [if_pos h0] at h2
    rw [h2] at hh
    rw [h0] at hl
    apply UInt32.toNat.inj
    rw [show (0 : UInt32).toNat = 0 from rfl] at *
    omega
  · rw [if_neg h0] at h2
    rw [h2, show (2197175160 : UInt32).toNat = 2197175160 from rfl] at hh
    omega
theorem step_inj {a b : UInt32} (h : step a = step b) : a = b := by
  apply xor_eq_zero
  apply step_eq_zero
  rw [step_xor, h, xor_self32]
theorem steps_inj (k : Nat) : ∀ {a b : UInt32}, steps k a = steps k b → a = b := by
  induction k with
  | zero => intro a b h; exact h
  | succ k ih => intro a b h; rw [steps_succ, steps_succ] at h; exact ih (step_inj h)
theorem xor_right_inj {a b c : UInt32} (h : a ^^^ c = b ^^^ c) : a = b := by
  have : a ^^^ c ^^^ c = b ^^^ c ^^^ c := by rw [h]
  rwa [xor_assoc32, xor_self32, xor_zero32, xor_assoc32, xor_self32, xor_zero32] at this
theorem take_inj {a b : UInt32} {c : UInt8} (h : take a c = take b c) : a = b := by
  rw [← take_eq, ← take_eq, mix_eq, mix_eq] at h
  exact xor_right_inj (steps_inj 8 h)
theorem take_inj_byte {a : UInt32} {c d : UInt8} (h : take a c = take a d) : c = d := by
  rw [← take_eq, ← take_eq, mix_eq, mix_eq, xor_comm32 a, xor_comm32 a] at h
  have h2 := xor_right_inj (steps_inj 8 h)
  have h3 : (UInt32.ofNat c.toNat).toNat = (UInt32.ofNat d.toNat).toNat := by rw [h2]
  have hc := c.toNat_lt
  have hd := d.toNat_lt
  rw [UInt32.toNat_ofNat', UInt32.toNat_ofNat', Nat.mod_eq_of_lt (by omega), Nat.mod_eq_of_lt (by omega)] at h3
  exact UInt8.toNat.inj h3
theorem run_inj (l : List UInt8) : ∀ {a b : UInt32}, run a l = run b l → a = b := by
  induction l with
  | nil => intro a b h; rwa [run_nil, run_nil] at h
  | cons c l ih => intro a b h; rw [run_cons, run_cons] at h; exact take_inj (ih h)
theorem run_byte {r : UInt32} {x y : List UInt8} {c d : UInt8} (h : run r (x ++ c :: y) = run r (x ++ d :: y)) : c = d := by
  rw [run_append, run_append, run_cons, run_cons] at h
  exact take_inj_byte (run_inj y h)
theorem more_byte {s : UInt32} {x y : List UInt8} {c d : UInt8} (h : more s (x ++ c :: y) = more s (x ++ d :: y)) : c = d := by
  rw [more_eq, more_eq] at h
  have := congrArg nt h
  rw [nt_nt, nt_nt] at this
  exact run_byte this
theorem be_inj {a b k : Nat} (ha : a < 256 ^ k) (hb : b < 256 ^ k) (h : be k a = be k b) : a = b := by
  rw [← num_be_lt ha, ← num_be_lt hb, h]
theorem sumOf_byte {h x y : List UInt8} {c d : UInt8} (e : sumOf h (x ++ c :: y) = sumOf h (x ++ d :: y)) : c = d := by
  unfold sumOf at e
  have := be_inj (by have := (more (sum h) (x ++ c :: y)).toNat_lt; omega) (by have := (more (sum h) (x ++ d :: y)).toNat_lt; omega) e
  exact more_byte (UInt32.toNat.inj this)
end Fr

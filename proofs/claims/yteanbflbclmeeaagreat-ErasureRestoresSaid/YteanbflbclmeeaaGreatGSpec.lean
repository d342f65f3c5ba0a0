/- The field of 256 numbers: sums, doublings, products, powers and logs on bytes, and that it is a field. No program is imported here. -/
import Derived.Test.YteanbflbclmeeaaGreatWord
import Derived.Test.YteanbflbclmeeaaGreatGTab
namespace Go.Proofs.YteanbflbclmeeaaGreat

/-! On bytes. -/
def dbl (a : UInt8) : UInt8 := (a <<< (1 : UInt8)) ^^^ ((29 : UInt8) &&& ((0 : UInt8) - (a >>> (7 : UInt8))))
def tmF : Nat → UInt8 → UInt8 → UInt8 → UInt8
  | 0, p, _, _ => p
  | n + 1, p, a, b => tmF n (p ^^^ (a &&& (0 - (b &&& 1)))) (dbl a) (b >>> 1)
@[irreducible] def tm (a b : UInt8) : UInt8 := tmF 8 0 a b
theorem tm_eq (a b : UInt8) : tm a b = tmF 8 0 a b := by unfold tm; rfl

theorem all_u8 (P : UInt8 → Bool) (h : (List.range 256).all (fun n => P (UInt8.ofNat n)) = true) (a : UInt8) : P a = true := by
  have := List.all_eq_true.1 h a.toNat (List.mem_range.2 a.toNat_lt)
  simpa using this
theorem dbl_toNat (a : UInt8) : (dbl a).toNat = dblN a.toNat := by
  have := all_u8 (fun a => (dbl a).toNat == dblN a.toNat) (by decide +kernel) a
  simpa using this
theorem and_one (b : UInt8) : b &&& 1 = if b.toNat % 2 = 0 then 0 else 1 := by
  have := all_u8 (fun b => decide (b &&& 1 = if b.toNat % 2 = 0 then 0 else 1)) (by decide +kernel) b
  simpa using this
theorem mask_toNat (a b : UInt8) : (a &&& (0 - (b &&& 1))).toNat = a.toNat * (b.toNat % 2) := by
  rw [and_one]
  split
  · rename_i h; rw [h]; simp
  · rename_i h
    rw [show b.toNat % 2 = 1 by omega, show (0 - 1 : UInt8) = 255 from rfl]
    have := all_u8 (fun a => a &&& 255 == a) (by decide +kernel) a
    rw [eq_of_beq this]; omega
theorem shr_one (b : UInt8) : (b >>> 1).toNat = b.toNat / 2 := by
  have := all_u8 (fun b => (b >>> 1).toNat == b.toNat / 2) (by decide +kernel) b
  simpa using this
theorem tm_toNat (a b : UInt8) : (tm a b).toNat = mulN a.toNat b.toNat := by
  rw [tm_eq]
  simp only [tmF, UInt8.toNat_xor, mask_toNat, dbl_toNat, shr_one, mulN, UInt8.toNat_zero]

/-! Powers of 2, and how many times 2 it is. -/
@[irreducible] def E (n : Nat) : UInt8 := UInt8.ofNat (expN (n % 255))
@[irreducible] def L (a : UInt8) : Nat := logN a.toNat
theorem E_toNat (n : Nat) : (E n).toNat = expN (n % 255) := by
  unfold E
  have h := log_expN (n % 255) (Nat.mod_lt _ (by decide))
  rw [UInt8.toNat_ofNat']; omega
theorem E_mod (n : Nat) : E (n % 255) = E n := by apply UInt8.toNat_inj.1; rw [E_toNat, E_toNat, Nat.mod_mod]
theorem E_congr {m n : Nat} (h : m % 255 = n % 255) : E m = E n := by rw [← E_mod m, h, E_mod]
theorem E_ne (n : Nat) : E n ≠ 0 := by
  intro h
  have h1 := congrArg UInt8.toNat h
  rw [E_toNat] at h1
  exact (log_expN (n % 255) (Nat.mod_lt _ (by decide))).2.1 (by simpa using h1)
theorem L_E (n : Nat) : L (E n) = n % 255 := by
  unfold L; rw [E_toNat]; exact (log_expN (n % 255) (Nat.mod_lt _ (by decide))).2.2
theorem L_lt (a : UInt8) (h : a ≠ 0) : L a < 255 := by
  unfold L
  exact (exp_logN a.toNat a.toNat_lt (fun h0 => h (UInt8.toNat_inj.1 (by simpa using h0)))).1
theorem E_L (a : UInt8) (h : a ≠ 0) : E (L a) = a := by
  apply UInt8.toNat_inj.1
  have h1 := L_lt a h
  rw [E_toNat, Nat.mod_eq_of_lt h1]
  unfold L
  exact (exp_logN a.toNat a.toNat_lt (fun h0 => h (UInt8.toNat_inj.1 (by simpa using h0)))).2
theorem E_zero : E 0 = 1 := by unfold E; decide +kernel
theorem E_one : E 1 = 2 := by unfold E; decide +kernel
theorem E_255 : E 255 = 1 := by rw [E_congr (n := 0) (by decide), E_zero]
theorem of_E (a : UInt8) (h : a ≠ 0) : ∃ n, n < 255 ∧ a = E n := ⟨L a, L_lt a h, (E_L a h).symm⟩
theorem E_inj {m n : Nat} (h : E m = E n) : m % 255 = n % 255 := by rw [← L_E m, ← L_E n, h]

theorem nz {a : UInt8} (h : a ≠ 0) : a.toNat ≠ 0 := fun h0 => h (UInt8.toNat_inj.1 (by simpa using h0))
theorem tm_zero (a : UInt8) : tm a 0 = 0 := by
  apply UInt8.toNat_inj.1; rw [tm_toNat, mulN_eq _ _ a.toNat_lt (by decide), if_pos (Or.inr (by decide))]; rfl
theorem zero_tm (a : UInt8) : tm 0 a = 0 := by
  apply UInt8.toNat_inj.1; rw [tm_toNat, mulN_eq _ _ (by decide) a.toNat_lt, if_pos (Or.inl (by decide))]; rfl
theorem tm_E (m n : Nat) : tm (E m) (E n) = E (m + n) := by
  apply UInt8.toNat_inj.1
  rw [tm_toNat, mulN_eq _ _ (E m).toNat_lt (E n).toNat_lt, if_neg (by have h1 := nz (E_ne m); have h2 := nz (E_ne n); rintro (h | h) <;> contradiction), E_toNat (m + n)]
  have h1 := L_E m; have h2 := L_E n
  unfold L at h1 h2
  rw [h1, h2, ← Nat.add_mod]
theorem tm_comm (a b : UInt8) : tm a b = tm b a := by
  by_cases ha : a = 0
  · subst ha; rw [tm_zero, zero_tm]
  by_cases hb : b = 0
  · subst hb; rw [tm_zero, zero_tm]
  obtain ⟨m, _, rfl⟩ := of_E a ha
  obtain ⟨n, _, rfl⟩ := of_E b hb
  rw [tm_E, tm_E, Nat.add_comm]
theorem tm_one (a : UInt8) : tm a 1 = a := by
  by_cases ha : a = 0
  · subst ha; rw [zero_tm]
  obtain ⟨m, _, rfl⟩ := of_E a ha
  rw [← E_zero, tm_E, Nat.add_zero]
theorem one_tm (a : UInt8) : tm 1 a = a := by rw [tm_comm, tm_one]
theorem tm_assoc (a b c : UInt8) : tm (tm a b) c = tm a (tm b c) := by
  by_cases ha : a = 0
  · subst ha; simp only [zero_tm]
  by_cases hb : b = 0
  · subst hb; simp only [zero_tm, tm_zero]
  by_cases hc : c = 0
  · subst hc; simp only [tm_zero]
  obtain ⟨m, _, rfl⟩ := of_E a ha
  obtain ⟨n, _, rfl⟩ := of_E b hb
  obtain ⟨k, _, rfl⟩ := of_E c hc
  simp only [tm_E, Nat.add_assoc]
theorem tm_eq_zero (a b : UInt8) : tm a b = 0 ↔ a = 0 ∨ b = 0 := by
  constructor
  · intro h
    by_cases ha : a = 0
    · exact .inl ha
    by_cases hb : b = 0
    · exact .inr hb
    obtain ⟨m, _, rfl⟩ := of_E a ha
    obtain ⟨n, _, rfl⟩ := of_E b hb
    rw [tm_E] at h
    exact absurd h (E_ne _)
  · rintro (rfl | rfl)
    · exact zero_tm _
    · exact tm_zero _

/-! Products of sums. -/
theorem xor_ac (p q x y : UInt8) : (p ^^^ q) ^^^ (x ^^^ y) = (p ^^^ x) ^^^ (q ^^^ y) := by ac_rfl
theorem mask_xor (a b c : UInt8) : a &&& (0 - ((b ^^^ c) &&& 1)) = (a &&& (0 - (b &&& 1))) ^^^ (a &&& (0 - (c &&& 1))) := by
  have h : (b ^^^ c) &&& 1 = (b &&& 1) ^^^ (c &&& 1) := UInt8.toBitVec_inj.1 (by apply BitVec.eq_of_getElem_eq; intro i hi; simp only [UInt8.toBitVec_and, UInt8.toBitVec_xor, BitVec.getElem_and, BitVec.getElem_xor]; exact Bool.and_xor_distrib_right ..)
  rw [h, and_one b, and_one c]
  split <;> split <;> simp
theorem shr_xor (b c : UInt8) : (b ^^^ c) >>> 1 = (b >>> 1) ^^^ (c >>> 1) := UInt8.toBitVec_inj.1 (by simp [BitVec.ushiftRight_xor_distrib])
theorem tmF_xor (n : Nat) : ∀ (p q a b c : UInt8), tmF n (p ^^^ q) a (b ^^^ c) = tmF n p a b ^^^ tmF n q a c := by
  induction n with
  | zero => intro p q a b c; rfl
  | succ n ih => intro p q a b c; rw [tmF, tmF, tmF, mask_xor, shr_xor, xor_ac, ih]
theorem tm_xor (a b c : UInt8) : tm a (b ^^^ c) = tm a b ^^^ tm a c := by
  rw [tm_eq, tm_eq, tm_eq, ← tmF_xor]; rfl

/-! Powers. -/
def pwF (a : UInt8) : Nat → UInt8
  | 0 => 1
  | n + 1 => tm (pwF a n) a
@[irreducible] def pw (a : UInt8) (n : Nat) : UInt8 := pwF a n
theorem pw_zero (a : UInt8) : pw a 0 = 1 := by unfold pw; rfl
theorem pw_succ (a : UInt8) (n : Nat) : pw a (n + 1) = tm (pw a n) a := by unfold pw; rfl
theorem pw_E (m n : Nat) : pw (E m) n = E (m * n) := by
  induction n with
  | zero => rw [pw_zero, Nat.mul_zero, E_zero]
  | succ n ih => rw [pw_succ, ih, tm_E, Nat.mul_succ]
theorem zero_pw (n : Nat) : pw 0 (n + 1) = 0 := by rw [pw_succ, tm_zero]
theorem pw_add (a : UInt8) (m n : Nat) : pw a (m + n) = tm (pw a m) (pw a n) := by
  induction n with
  | zero => rw [pw_zero, tm_one, Nat.add_zero]
  | succ n ih => rw [← Nat.add_assoc, pw_succ, ih, pw_succ, tm_assoc]
theorem pw_sq (a : UInt8) (n : Nat) : pw (tm a a) n = pw a (2 * n) := by
  induction n with
  | zero => rw [pw_zero, Nat.mul_zero, pw_zero]
  | succ n ih => rw [pw_succ, ih, show 2 * (n + 1) = 2 * n + 1 + 1 from by omega, pw_succ, pw_succ, tm_assoc]
theorem pw_congr (a : UInt8) (h : a ≠ 0) {m n : Nat} (e : m % 255 = n % 255) : pw a m = pw a n := by
  obtain ⟨k, _, rfl⟩ := of_E a h
  rw [pw_E, pw_E]
  exact E_congr (by rw [Nat.mul_mod, e, ← Nat.mul_mod])
theorem two_pw (n : Nat) : pw 2 n = E n := by rw [← E_one, pw_E, Nat.one_mul]
theorem pw_255 (a : UInt8) (h : a ≠ 0) : pw a 255 = 1 := by rw [pw_congr a h (n := 0) (by decide), pw_zero]

/-! The number of times, taken modulo 255, and the power of any number of times. -/
def lt255 (n : Int) : Nat := (n % 255).toNat
@[irreducible] def pow (a : UInt8) (n : Int) : UInt8 := if a = 0 ∧ n ≠ 0 then 0 else pw a (lt255 n)
theorem lt255_lt (n : Int) : lt255 n < 255 := by unfold lt255; omega
theorem pow_nz (a : UInt8) (h : a ≠ 0) (n : Int) : pow a n = pw a (lt255 n) := by unfold pow; rw [if_neg (fun x => h x.1)]
theorem pow_0 (n : Int) (h : n ≠ 0) : pow 0 n = 0 := by unfold pow; rw [if_pos ⟨rfl, h⟩]
theorem pow_00 : pow 0 0 = 1 := by unfold pow; rw [if_neg (fun x => x.2 rfl)]; exact pw_zero 0
theorem pow_add (a : UInt8) (h : a ≠ 0) (m n : Int) : tm (pow a m) (pow a n) = pow a (m + n) := by
  rw [pow_nz a h, pow_nz a h, pow_nz a h, ← pw_add]
  refine pw_congr a h ?_
  unfold lt255
  omega
theorem pow_255 (a : UInt8) (h : a ≠ 0) : pow a 255 = 1 := by rw [pow_nz a h]; exact pw_zero a
theorem two_ne : (2 : UInt8) ≠ 0 := by decide
theorem exp_E (n : Int) : pow 2 n = E (lt255 n) := by rw [pow_nz 2 two_ne, two_pw]
theorem L_exp (n : Int) : L (pow 2 n) = lt255 n := by rw [exp_E, L_E, Nat.mod_eq_of_lt (lt255_lt n)]
theorem exp_L (a : UInt8) (h : a ≠ 0) : pow 2 (L a : Int) = a := by
  have := L_lt a h
  rw [exp_E, show lt255 (L a : Int) = L a from by unfold lt255; omega, E_L a h]

/-! The number with which it makes 1. -/
@[irreducible] def inv (a : UInt8) : UInt8 := pow a (-1)
theorem inv_def (a : UInt8) : inv a = pow a (-1) := by unfold inv; rfl
theorem inv_zero : inv 0 = 0 := by rw [inv_def, pow_0 _ (by decide)]
theorem tm_inv (a : UInt8) (h : a ≠ 0) : tm a (inv a) = 1 := by
  rw [inv_def, show tm a (pow a (-1)) = tm (pow a 1) (pow a (-1)) from by rw [pow_nz a h 1, show lt255 1 = 0 + 1 from rfl, pw_succ, pw_zero, one_tm], pow_add a h, pow_nz a h]
  exact pw_zero a
theorem inv_tm (a : UInt8) (h : a ≠ 0) : tm (inv a) a = 1 := by rw [tm_comm, tm_inv a h]
theorem inv_uniq (a x : UInt8) (h : tm a x = 1) : x = inv a := by
  have ha : a ≠ 0 := by rintro rfl; rw [zero_tm] at h; exact absurd h (by decide)
  calc x = tm 1 x := (one_tm x).symm
    _ = tm (tm (inv a) a) x := by rw [inv_tm a ha]
    _ = tm (inv a) (tm a x) := tm_assoc ..
    _ = inv a := by rw [h, tm_one]
theorem div_tm (a c : UInt8) (h : a ≠ 0) : tm (tm c (inv a)) a = c := by rw [tm_assoc, inv_tm a h, tm_one]
end Go.Proofs.YteanbflbclmeeaaGreat

/- The walks of what makes a four none. -/
import Derived.Test.YtjalmmhbjilabaaB64
namespace Go.Proofs.Ytjalmmhbjilabaa
open Go.RowKit
theorem run_index_byte_0 {P : Program} (w : World) (t : TypeId) (s : ByteArray) (k : IntKind) (h : P.underlying t = some .string) (hi : 0 < s.size) :
    (Instr.index t (.string s) (.int k 0)).run P w = .ok (.int .u8 ((strAt s 0).toNat : Int)) w := run_index_byte w t s k 0 h hi
theorem run_index_byte_1 {P : Program} (w : World) (t : TypeId) (s : ByteArray) (k : IntKind) (h : P.underlying t = some .string) (hi : 1 < s.size) :
    (Instr.index t (.string s) (.int k 1)).run P w = .ok (.int .u8 ((strAt s 1).toNat : Int)) w := run_index_byte w t s k 1 h hi
theorem run_index_byte_2 {P : Program} (w : World) (t : TypeId) (s : ByteArray) (k : IntKind) (h : P.underlying t = some .string) (hi : 2 < s.size) :
    (Instr.index t (.string s) (.int k 2)).run P w = .ok (.int .u8 ((strAt s 2).toNat : Int)) w := run_index_byte w t s k 2 h hi
theorem run_index_byte_3 {P : Program} (w : World) (t : TypeId) (s : ByteArray) (k : IntKind) (h : P.underlying t = some .string) (hi : 3 < s.size) :
    (Instr.index t (.string s) (.int k 3)).run P w = .ok (.int .u8 ((strAt s 3).toNat : Int)) w := run_index_byte w t s k 3 h hi
attribute [local go_sem high] run_index_byte run_index_byte_0 run_index_byte_1 run_index_byte_2 run_index_byte_3

theorem valueOf_v (c : UInt8) (w : World) : Calls Try.prog 54 #[.int .u8 c.toNat] w fun e w' => (∃ b, e = .returned (.tuple #[.int .u8 (Dig.value0 c), .bool b])) ∧ w = w' := by
  by_cases h : Dig.value c < 64
  · refine (valueOf_yes c h w).mono ?_
    rintro e w' ⟨rfl, rfl⟩
    exact ⟨⟨true, by rw [Dig.value0_eq h]⟩, rfl⟩
  · refine (valueOf_no c h w).mono ?_
    rintro e w' ⟨rfl, rfl⟩
    exact ⟨⟨false, by rw [Dig.value0_no h]; rfl⟩, rfl⟩
theorem eq61 {c : UInt8} (h : c = 61) : ((c.toNat : Int) == 61) = true := by subst h; rfl
theorem ne61 {c : UInt8} (h : c ≠ 61) : ((c.toNat : Int) == 61) = false := by
  rw [beq_eq_false_iff_ne]; intro e; exact h (UInt8.toNat.inj (by rw [show (61 : UInt8).toNat = 61 from rfl]; omega))
theorem v_and_15 (n : Nat) (h : n < 64) : bits .and .u8 (n : Int) 15 = (n : Int) % 16 := u8_and15 _ (by omega) (by omega)
theorem v_and_3 (n : Nat) (h : n < 64) : bits .and .u8 (n : Int) 3 = (n : Int) % 4 := by
  rw [show (3 : Int) = ((3 : Nat) : Int) from rfl, u8_and_nat _ _ (by omega) (by omega), show (3 : Nat) = 2 ^ 2 - 1 from rfl, Nat.and_two_pow_sub_one_eq_mod]; omega
theorem v_and_0 (n : Nat) (h : n < 64) : bits .and .u8 (n : Int) 0 = 0 := by
  rw [show (0 : Int) = ((0 : Nat) : Int) from rfl, u8_and_nat _ _ (by omega) (by omega), Nat.and_zero]
attribute [local go_sem high] v_and_15 v_and_3 v_and_0
theorem ne_16 (n : Nat) : (((n : Int) % 16) != 0) = decide (n % 16 ≠ 0) := by rw [Bool.eq_iff_iff]; simp; omega
theorem ne_4 (n : Nat) : (((n : Int) % 4) != 0) = decide (n % 4 ≠ 0) := by rw [Bool.eq_iff_iff]; simp; omega
theorem ne_1 (n : Nat) : false = decide (n % 1 ≠ 0) := by simp [Nat.mod_one]
theorem tup_bool {k : Value} {a b : Bool} (h : a = b) : Ending.returned (.tuple #[k, .bool a]) = .returned (.tuple #[k, .bool b]) := by rw [h]

set_option maxHeartbeats 1000000 in
theorem looseIn_any (f : ByteArray) (hf : f.size = 4) (w : World) :
    Calls Try.prog 55 #[.string f] w fun e w' => e = .returned (.tuple #[.int .i64 (Dig.looseAt f.data.toList).1, .bool (decide (Dig.value0 (f.data.toList.getD (Dig.looseAt f.data.toList).1 0) % (Dig.looseAt f.data.toList).2 ≠ 0))]) ∧ w = w' := by
  obtain ⟨r, hr⟩ : ∃ r, r = Ending.returned (.tuple #[.int .i64 (Dig.looseAt f.data.toList).1, .bool (decide (Dig.value0 (f.data.toList.getD (Dig.looseAt f.data.toList).1 0) % (Dig.looseAt f.data.toList).2 ≠ 0))]) := ⟨_, rfl⟩
  rw [← hr]
  have HR := Lib.hid hr
  clear hr
  have s2 : strAt f 2 = f.data.toList.getD 2 0 := strAt_eq f 2
  have s3 : strAt f 3 = f.data.toList.getD 3 0 := strAt_eq f 3
  by_cases h2 : f.data.toList.getD 2 0 = 61
  · have hl := Dig.looseAt_1 h2
    have b2 := eq61 (s2.trans h2)
    have HL := Lib.hid hl
    clear hl h2 s2 s3
    obtain ⟨n, hn⟩ : ∃ n, n = Dig.value0 (strAt f 1) := ⟨_, rfl⟩
    have hn64 : n < 64 := by rw [hn]; exact Dig.value0_le _
    have HN := Lib.hid hn
    clear hn
    go_enter Try.func55, Try.ntmps55
    go_wp2_with (go_at_call 54; refine (valueOf_v _ _).mono ?_; rintro e w' ⟨⟨b, rfl⟩, rfl⟩; rw [← HN.out])
    go_ret2
    refine ⟨?_, rfl⟩
    rw [HR.out, HL.out, ← strAt_eq f 1, ← HN.out]
    exact tup_bool (k := .int .i64 1) (ne_16 n)
  · have b2 := ne61 (fun e => h2 (s2.symm.trans e))
    by_cases h3 : f.data.toList.getD 3 0 = 61
    · have hl := Dig.looseAt_2 h2 h3
      have b3 := eq61 (s3.trans h3)
      have HL := Lib.hid hl
      clear hl h2 h3 s2 s3
      obtain ⟨n, hn⟩ : ∃ n, n = Dig.value0 (strAt f 2) := ⟨_, rfl⟩
      have hn64 : n < 64 := by rw [hn]; exact Dig.value0_le _
      have HN := Lib.hid hn
      clear hn
      go_enter Try.func55, Try.ntmps55
      go_wp2_with (go_at_call 54; refine (valueOf_v _ _).mono ?_; rintro e w' ⟨⟨b, rfl⟩, rfl⟩; rw [← HN.out])
      go_ret2
      refine ⟨?_, rfl⟩
      rw [HR.out, HL.out, ← strAt_eq f 2, ← HN.out]
      exact tup_bool (k := .int .i64 2) (ne_4 n)
    · have hl := Dig.looseAt_0 h2 h3
      have b3 := ne61 (fun e => h3 (s3.symm.trans e))
      have HL := Lib.hid hl
      clear hl h2 h3 s2 s3
      obtain ⟨n, hn⟩ : ∃ n, n = Dig.value0 (strAt f 0) := ⟨_, rfl⟩
      have hn64 : n < 64 := by rw [hn]; exact Dig.value0_le _
      have HN := Lib.hid hn
      clear hn
      go_enter Try.func55, Try.ntmps55
      go_wp2_with (go_at_call 54; refine (valueOf_v _ _).mono ?_; rintro e w' ⟨⟨b, rfl⟩, rfl⟩; rw [← HN.out])
      go_ret2
      refine ⟨?_, rfl⟩
      rw [HR.out, HL.out, ← strAt_eq f 0, ← HN.out]
      exact tup_bool (k := .int .i64 0) (ne_1 n)
end Go.Proofs.Ytjalmmhbjilabaa

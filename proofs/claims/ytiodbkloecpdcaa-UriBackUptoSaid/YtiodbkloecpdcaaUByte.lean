/- What the program says of a byte. -/
import Derived.Test.YtiodbkloecpdcaaTBase
import Derived.Test.YtiodbkloecpdcaaUShelf
import Derived.Test.YtiodbkloecpdcaaUSpec
namespace Go.Proofs.Ytiodbkloecpdcaa
open Go.RowKit

set_option linter.unusedSimpArgs false
theorem ret_bool_w {a b : Bool} {w : World} (h : a = true ↔ b = true) : (Ending.returned (.bool a) = .returned (.bool b)) ∧ w = w := ⟨by rw [Bool.eq_iff_iff.2 h], rfl⟩
theorem u8_eq (c : UInt8) (n : Nat) (hn : n < 256) : (c == UInt8.ofNat n) = decide (c.toNat = n) := by
  rw [Bool.eq_iff_iff, beq_iff_eq, decide_eq_true_eq, ← UInt8.toNat_inj, UInt8.toNat_ofNat']
  omega
theorem c35 (c : UInt8) : (c == 35) = decide (c.toNat = 35) := u8_eq c 35 (by omega)
theorem c38 (c : UInt8) : (c == 38) = decide (c.toNat = 38) := u8_eq c 38 (by omega)
theorem c45 (c : UInt8) : (c == 45) = decide (c.toNat = 45) := u8_eq c 45 (by omega)
theorem c46 (c : UInt8) : (c == 46) = decide (c.toNat = 46) := u8_eq c 46 (by omega)
theorem c47 (c : UInt8) : (c == 47) = decide (c.toNat = 47) := u8_eq c 47 (by omega)
theorem c95 (c : UInt8) : (c == 95) = decide (c.toNat = 95) := u8_eq c 95 (by omega)
theorem c126 (c : UInt8) : (c == 126) = decide (c.toNat = 126) := u8_eq c 126 (by omega)
theorem isSmall_any (c : UInt8) (w : World) : Calls Try.prog 49 #[.int .u8 c.toNat] w fun e w' => e = .returned (.bool (Ur.sml c)) ∧ w' = w := by
  by_cases h1 : 97 ≤ c.toNat
  · go_enter Try.func49, Try.ntmps49
    go_wp2_with fail
    go_ret
    exact ret_bool_w (by simp only [Ur.sml, Ur.cap, Ur.dgt, Ur.firm, Ur.odd, Ur.adr, Ur.ofName, Ur.fre, Ur.freP, c35, c45, c46, c47, c95, c126, Bool.and_eq_true, Bool.or_eq_true, decide_eq_true_eq, beq_iff_eq, Bool.false_eq_true, Bool.not_eq_true', Bool.and_false, Bool.false_and, true_and, and_true, Bool.true_and, Bool.and_true, Bool.or_false, Bool.false_or, Bool.true_or, true_or, or_true, Bool.or_true] <;> first | omega | (constructor <;> intro h <;> first | exact h.elim | omega | simp))
  · go_enter Try.func49, Try.ntmps49
    go_wp2_with fail
    go_ret
    exact ret_bool_w (by simp only [Ur.sml, Ur.cap, Ur.dgt, Ur.firm, Ur.odd, Ur.adr, Ur.ofName, Ur.fre, Ur.freP, c35, c45, c46, c47, c95, c126, Bool.and_eq_true, Bool.or_eq_true, decide_eq_true_eq, beq_iff_eq, Bool.false_eq_true, Bool.not_eq_true', Bool.and_false, Bool.false_and, true_and, and_true, Bool.true_and, Bool.and_true, Bool.or_false, Bool.false_or, Bool.true_or, true_or, or_true, Bool.or_true] <;> first | omega | (constructor <;> intro h <;> first | exact h.elim | omega | simp))
theorem isCapital_any (c : UInt8) (w : World) : Calls Try.prog 50 #[.int .u8 c.toNat] w fun e w' => e = .returned (.bool (Ur.cap c)) ∧ w' = w := by
  by_cases h1 : 65 ≤ c.toNat
  · go_enter Try.func50, Try.ntmps50
    go_wp2_with fail
    go_ret
    exact ret_bool_w (by simp only [Ur.sml, Ur.cap, Ur.dgt, Ur.firm, Ur.odd, Ur.adr, Ur.ofName, Ur.fre, Ur.freP, c35, c45, c46, c47, c95, c126, Bool.and_eq_true, Bool.or_eq_true, decide_eq_true_eq, beq_iff_eq, Bool.false_eq_true, Bool.not_eq_true', Bool.and_false, Bool.false_and, true_and, and_true, Bool.true_and, Bool.and_true, Bool.or_false, Bool.false_or, Bool.true_or, true_or, or_true, Bool.or_true] <;> first | omega | (constructor <;> intro h <;> first | exact h.elim | omega | simp))
  · go_enter Try.func50, Try.ntmps50
    go_wp2_with fail
    go_ret
    exact ret_bool_w (by simp only [Ur.sml, Ur.cap, Ur.dgt, Ur.firm, Ur.odd, Ur.adr, Ur.ofName, Ur.fre, Ur.freP, c35, c45, c46, c47, c95, c126, Bool.and_eq_true, Bool.or_eq_true, decide_eq_true_eq, beq_iff_eq, Bool.false_eq_true, Bool.not_eq_true', Bool.and_false, Bool.false_and, true_and, and_true, Bool.true_and, Bool.and_true, Bool.or_false, Bool.false_or, Bool.true_or, true_or, or_true, Bool.or_true] <;> first | omega | (constructor <;> intro h <;> first | exact h.elim | omega | simp))
theorem isDigit_any (c : UInt8) (w : World) : Calls Try.prog 51 #[.int .u8 c.toNat] w fun e w' => e = .returned (.bool (Ur.dgt c)) ∧ w' = w := by
  by_cases h1 : 48 ≤ c.toNat
  · go_enter Try.func51, Try.ntmps51
    go_wp2_with fail
    go_ret
    exact ret_bool_w (by simp only [Ur.sml, Ur.cap, Ur.dgt, Ur.firm, Ur.odd, Ur.adr, Ur.ofName, Ur.fre, Ur.freP, c35, c45, c46, c47, c95, c126, Bool.and_eq_true, Bool.or_eq_true, decide_eq_true_eq, beq_iff_eq, Bool.false_eq_true, Bool.not_eq_true', Bool.and_false, Bool.false_and, true_and, and_true, Bool.true_and, Bool.and_true, Bool.or_false, Bool.false_or, Bool.true_or, true_or, or_true, Bool.or_true] <;> first | omega | (constructor <;> intro h <;> first | exact h.elim | omega | simp))
  · go_enter Try.func51, Try.ntmps51
    go_wp2_with fail
    go_ret
    exact ret_bool_w (by simp only [Ur.sml, Ur.cap, Ur.dgt, Ur.firm, Ur.odd, Ur.adr, Ur.ofName, Ur.fre, Ur.freP, c35, c45, c46, c47, c95, c126, Bool.and_eq_true, Bool.or_eq_true, decide_eq_true_eq, beq_iff_eq, Bool.false_eq_true, Bool.not_eq_true', Bool.and_false, Bool.false_and, true_and, and_true, Bool.true_and, Bool.and_true, Bool.or_false, Bool.false_or, Bool.true_or, true_or, or_true, Bool.or_true] <;> first | omega | (constructor <;> intro h <;> first | exact h.elim | omega | simp))
theorem isStrange_any (c : UInt8) (w : World) : Calls Try.prog 35 #[.int .u8 c.toNat] w fun e w' => e = .returned (.bool (Ur.odd c)) ∧ w' = w := by
  by_cases h1 : c.toNat < 33
  · go_enter Try.func35, Try.ntmps35
    go_wp2_with fail
    go_ret
    exact ret_bool_w (by simp only [Ur.sml, Ur.cap, Ur.dgt, Ur.firm, Ur.odd, Ur.adr, Ur.ofName, Ur.fre, Ur.freP, c35, c45, c46, c47, c95, c126, Bool.and_eq_true, Bool.or_eq_true, decide_eq_true_eq, beq_iff_eq, Bool.false_eq_true, Bool.not_eq_true', Bool.and_false, Bool.false_and, true_and, and_true, Bool.true_and, Bool.and_true, Bool.or_false, Bool.false_or, Bool.true_or, true_or, or_true, Bool.or_true] <;> first | omega | (constructor <;> intro h <;> first | exact h.elim | omega | simp))
  · by_cases h2 : 126 < c.toNat
    · go_enter Try.func35, Try.ntmps35
      go_wp2_with fail
      go_ret
      exact ret_bool_w (by simp only [Ur.sml, Ur.cap, Ur.dgt, Ur.firm, Ur.odd, Ur.adr, Ur.ofName, Ur.fre, Ur.freP, c35, c45, c46, c47, c95, c126, Bool.and_eq_true, Bool.or_eq_true, decide_eq_true_eq, beq_iff_eq, Bool.false_eq_true, Bool.not_eq_true', Bool.and_false, Bool.false_and, true_and, and_true, Bool.true_and, Bool.and_true, Bool.or_false, Bool.false_or, Bool.true_or, true_or, or_true, Bool.or_true] <;> first | omega | (constructor <;> intro h <;> first | exact h.elim | omega | simp))
    · go_enter Try.func35, Try.ntmps35
      go_wp2_with fail
      go_ret
      exact ret_bool_w (by simp only [Ur.sml, Ur.cap, Ur.dgt, Ur.firm, Ur.odd, Ur.adr, Ur.ofName, Ur.fre, Ur.freP, c35, c45, c46, c47, c95, c126, Bool.and_eq_true, Bool.or_eq_true, decide_eq_true_eq, beq_iff_eq, Bool.false_eq_true, Bool.not_eq_true', Bool.and_false, Bool.false_and, true_and, and_true, Bool.true_and, Bool.and_true, Bool.or_false, Bool.false_or, Bool.true_or, true_or, or_true, Bool.or_true] <;> first | omega | (constructor <;> intro h <;> first | exact h.elim | omega | simp))
theorem isFirm_any (c : UInt8) (w : World) : Calls Try.prog 67 #[.int .u8 c.toNat] w fun e w' => e = .returned (.bool (Ur.firm c)) ∧ w' = w := by
  have C0 := Lib.hid (fun v : World => isSmall_any c v)
  have C1 := Lib.hid (fun v : World => isDigit_any c v)
  obtain ⟨b0, hb0⟩ : ∃ b, b = Ur.sml c := ⟨_, rfl⟩
  rw [← hb0] at C0
  obtain ⟨b1, hb1⟩ : ∃ b, b = Ur.dgt c := ⟨_, rfl⟩
  rw [← hb1] at C1
  rw [Ur.firm, ← hb0, ← hb1]
  clear hb0 hb1
  cases b0
  · go_enter Try.func67, Try.ntmps67
    go_wp2_with (first | (go_at_call 49; refine (C0.out _).mono ?_; rintro e w' ⟨rfl, rfl⟩) | (go_at_call 51; refine (C1.out _).mono ?_; rintro e w' ⟨rfl, rfl⟩))
    go_ret
    exact ⟨by simp, rfl⟩
  · go_enter Try.func67, Try.ntmps67
    go_wp2_with (first | (go_at_call 49; refine (C0.out _).mono ?_; rintro e w' ⟨rfl, rfl⟩) | (go_at_call 51; refine (C1.out _).mono ?_; rintro e w' ⟨rfl, rfl⟩))
    go_ret
    exact ⟨by simp, rfl⟩
theorem isOfName_any (c : UInt8) (w : World) : Calls Try.prog 41 #[.int .u8 c.toNat] w fun e w' => e = .returned (.bool (Ur.ofName c)) ∧ w' = w := by
  have C0 := Lib.hid (fun v : World => isFirm_any c v)
  obtain ⟨b0, hb0⟩ : ∃ b, b = Ur.firm c := ⟨_, rfl⟩
  rw [← hb0] at C0
  rw [Ur.ofName, ← hb0, c45, c46]
  clear hb0
  cases b0
  · go_enter Try.func41, Try.ntmps41
    go_wp2_with (first | (go_at_call 67; refine (C0.out _).mono ?_; rintro e w' ⟨rfl, rfl⟩))
    all_goals
      go_ret
      exact ret_bool_w (by simp only [Ur.sml, Ur.cap, Ur.dgt, Ur.firm, Ur.odd, Ur.adr, Ur.ofName, Ur.fre, Ur.freP, c35, c45, c46, c47, c95, c126, Bool.and_eq_true, Bool.or_eq_true, decide_eq_true_eq, beq_iff_eq, Bool.false_eq_true, Bool.not_eq_true', Bool.and_false, Bool.false_and, true_and, and_true, Bool.true_and, Bool.and_true, Bool.or_false, Bool.false_or, Bool.true_or, true_or, or_true, Bool.or_true] <;> first | omega | (constructor <;> intro h <;> first | exact h.elim | omega | simp))
  · go_enter Try.func41, Try.ntmps41
    go_wp2_with (first | (go_at_call 67; refine (C0.out _).mono ?_; rintro e w' ⟨rfl, rfl⟩))
    all_goals
      go_ret
      exact ret_bool_w (by simp only [Ur.sml, Ur.cap, Ur.dgt, Ur.firm, Ur.odd, Ur.adr, Ur.ofName, Ur.fre, Ur.freP, c35, c45, c46, c47, c95, c126, Bool.and_eq_true, Bool.or_eq_true, decide_eq_true_eq, beq_iff_eq, Bool.false_eq_true, Bool.not_eq_true', Bool.and_false, Bool.false_and, true_and, and_true, Bool.true_and, Bool.and_true, Bool.or_false, Bool.false_or, Bool.true_or, true_or, or_true, Bool.or_true] <;> first | omega | (constructor <;> intro h <;> first | exact h.elim | omega | simp))
theorem isAddress1_any (c : UInt8) (w : World) : Calls Try.prog 69 #[.int .u8 c.toNat] w fun e w' => e = .returned (.bool (Ur.adr c)) ∧ w' = w := by
  have C0 := Lib.hid (fun v : World => isDigit_any c v)
  obtain ⟨b0, hb0⟩ : ∃ b, b = Ur.dgt c := ⟨_, rfl⟩
  rw [← hb0] at C0
  rw [Ur.adr, ← hb0, c46]
  clear hb0
  cases b0
  · go_enter Try.func69, Try.ntmps69
    go_wp2_with (first | (go_at_call 51; refine (C0.out _).mono ?_; rintro e w' ⟨rfl, rfl⟩))
    go_ret
    exact ret_bool_w (by simp only [Ur.sml, Ur.cap, Ur.dgt, Ur.firm, Ur.odd, Ur.adr, Ur.ofName, Ur.fre, Ur.freP, c35, c45, c46, c47, c95, c126, Bool.and_eq_true, Bool.or_eq_true, decide_eq_true_eq, beq_iff_eq, Bool.false_eq_true, Bool.not_eq_true', Bool.and_false, Bool.false_and, true_and, and_true, Bool.true_and, Bool.and_true, Bool.or_false, Bool.false_or, Bool.true_or, true_or, or_true, Bool.or_true] <;> first | omega | (constructor <;> intro h <;> first | exact h.elim | omega | simp))
  · go_enter Try.func69, Try.ntmps69
    go_wp2_with (first | (go_at_call 51; refine (C0.out _).mono ?_; rintro e w' ⟨rfl, rfl⟩))
    go_ret
    exact ret_bool_w (by simp only [Ur.sml, Ur.cap, Ur.dgt, Ur.firm, Ur.odd, Ur.adr, Ur.ofName, Ur.fre, Ur.freP, c35, c45, c46, c47, c95, c126, Bool.and_eq_true, Bool.or_eq_true, decide_eq_true_eq, beq_iff_eq, Bool.false_eq_true, Bool.not_eq_true', Bool.and_false, Bool.false_and, true_and, and_true, Bool.true_and, Bool.and_true, Bool.or_false, Bool.false_or, Bool.true_or, true_or, or_true, Bool.or_true] <;> first | omega | (constructor <;> intro h <;> first | exact h.elim | omega | simp))
end Go.Proofs.Ytiodbkloecpdcaa

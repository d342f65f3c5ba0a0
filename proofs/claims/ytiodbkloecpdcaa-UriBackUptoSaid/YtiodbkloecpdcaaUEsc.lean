/- The program reads a byte in escapes; which bytes it puts in escapes. -/
import Derived.Test.YtiodbkloecpdcaaUByte
namespace Go.Proofs.Ytiodbkloecpdcaa
open Go.RowKit

theorem idx4 : ∀ n < 256, (decide (0 ≤ Lib.indexByte [45, 46, 95, 126] (UInt8.ofNat n))) = (decide (n = 45) || decide (n = 46) || decide (n = 95) || decide (n = 126)) := by decide +kernel
theorem idx4_u (c : UInt8) : decide (0 ≤ Lib.indexByte [45, 46, 95, 126] c) = (c == 45 || c == 46 || c == 95 || c == 126) := by
  have := idx4 c.toNat c.toNat_lt
  rw [UInt8.ofNat_toNat] at this
  rw [this, c45, c46, c95, c126]
theorem u8_back (c : UInt8) : ((c.toNat : Int)).toNat.toUInt8 = c := by
  rw [Int.toNat_natCast]
  exact UInt8.ofNat_toNat
theorem lit4 : (⟨#[45, 46, 95, 126]⟩ : ByteArray) = bs [45, 46, 95, 126] := by rw [← bs_eq]
theorem lit16 : (⟨#[48, 49, 50, 51, 52, 53, 54, 55, 56, 57, 65, 66, 67, 68, 69, 70]⟩ : ByteArray) = bs [48, 49, 50, 51, 52, 53, 54, 55, 56, 57, 65, 66, 67, 68, 69, 70] := by rw [← bs_eq]
theorem indexByte_bs (S : List UInt8) (c : UInt8) (w : World) : Calls Try.prog 52 #[.string (bs S), .int .u8 c.toNat] w fun e w' => e = .returned (.int .i64 (Lib.indexByte S c)) ∧ w' = w := by
  have h := u_strings_IndexByte (bs S) c.toNat w
  rw [u8_back, bs_list] at h
  exact h
theorem isPlain_any (c : UInt8) (w : World) : Calls Try.prog 28 #[.int .u8 c.toNat] w fun e w' => e = .returned (.bool (Ur.fre c)) ∧ w' = w := by
  have C0 := Lib.hid (fun v : World => isSmall_any c v)
  have C1 := Lib.hid (fun v : World => isCapital_any c v)
  have C2 := Lib.hid (fun v : World => isDigit_any c v)
  have C3 := Lib.hid (fun v : World => indexByte_bs [45, 46, 95, 126] c v)
  have hk := idx4_u c
  rw [← lit4] at C3
  have e : Ur.fre c = (Ur.sml c || Ur.cap c || Ur.dgt c || (c == 45 || c == 46 || c == 95 || c == 126)) := by unfold Ur.fre; simp only [Bool.or_assoc]
  rw [← hk] at e
  clear hk
  generalize Lib.indexByte [45, 46, 95, 126] c = k at *
  rw [e]
  clear e
  generalize Ur.sml c = b0 at *
  generalize Ur.cap c = b1 at *
  generalize Ur.dgt c = b2 at *
  cases b0
  · cases b1
    · cases b2
      · go_enter Try.func28, Try.ntmps28
        go_wp2_with (first | (go_at_call 49; refine (C0.out _).mono ?_; rintro e w' ⟨rfl, rfl⟩) | (go_at_call 50; refine (C1.out _).mono ?_; rintro e w' ⟨rfl, rfl⟩) | (go_at_call 51; refine (C2.out _).mono ?_; rintro e w' ⟨rfl, rfl⟩) | (go_at_call 52; refine (C3.out _).mono ?_; rintro e w' ⟨rfl, rfl⟩))
        go_ret
        exact ret_bool_w (by simp)
      · go_enter Try.func28, Try.ntmps28
        go_wp2_with (first | (go_at_call 49; refine (C0.out _).mono ?_; rintro e w' ⟨rfl, rfl⟩) | (go_at_call 50; refine (C1.out _).mono ?_; rintro e w' ⟨rfl, rfl⟩) | (go_at_call 51; refine (C2.out _).mono ?_; rintro e w' ⟨rfl, rfl⟩) | (go_at_call 52; refine (C3.out _).mono ?_; rintro e w' ⟨rfl, rfl⟩))
        go_ret
        exact ret_bool_w (by simp)
    · go_enter Try.func28, Try.ntmps28
      go_wp2_with (first | (go_at_call 49; refine (C0.out _).mono ?_; rintro e w' ⟨rfl, rfl⟩) | (go_at_call 50; refine (C1.out _).mono ?_; rintro e w' ⟨rfl, rfl⟩) | (go_at_call 51; refine (C2.out _).mono ?_; rintro e w' ⟨rfl, rfl⟩) | (go_at_call 52; refine (C3.out _).mono ?_; rintro e w' ⟨rfl, rfl⟩))
      go_ret
      exact ret_bool_w (by simp)
  · go_enter Try.func28, Try.ntmps28
    go_wp2_with (first | (go_at_call 49; refine (C0.out _).mono ?_; rintro e w' ⟨rfl, rfl⟩) | (go_at_call 50; refine (C1.out _).mono ?_; rintro e w' ⟨rfl, rfl⟩) | (go_at_call 51; refine (C2.out _).mono ?_; rintro e w' ⟨rfl, rfl⟩) | (go_at_call 52; refine (C3.out _).mono ?_; rintro e w' ⟨rfl, rfl⟩))
    go_ret
    exact ret_bool_w (by simp)
theorem isPlainP_any (c : UInt8) (w : World) : Calls Try.prog 29 #[.int .u8 c.toNat] w fun e w' => e = .returned (.bool (Ur.freP c)) ∧ w' = w := by
  have C0 := Lib.hid (fun v : World => isPlain_any c v)
  rw [Ur.freP, c47]
  generalize Ur.fre c = b0 at *
  cases b0
  · go_enter Try.func29, Try.ntmps29
    go_wp2_with (first | (go_at_call 28; refine (C0.out _).mono ?_; rintro e w' ⟨rfl, rfl⟩))
    go_ret
    exact ret_bool_w (by simp only [Bool.false_or, beq_iff_eq, decide_eq_true_eq]; omega)
  · go_enter Try.func29, Try.ntmps29
    go_wp2_with (first | (go_at_call 28; refine (C0.out _).mono ?_; rintro e w' ⟨rfl, rfl⟩))
    go_ret
    exact ret_bool_w (by simp)
theorem val_tab : ∀ n < 256, Lib.indexByte [48, 49, 50, 51, 52, 53, 54, 55, 56, 57, 65, 66, 67, 68, 69, 70] (if Ur.sml (UInt8.ofNat n) then UInt8.ofNat n - 32 else UInt8.ofNat n) = Ur.val (UInt8.ofNat n) := by decide +kernel
theorem sub_32 (c : UInt8) : IntKind.u8.wrap ((c.toNat : Int) - 32) = ((c - 32).toNat : Int) := by
  have h := c.toNat_lt
  rw [IntKind.wrap_u8, UInt8.toNat_sub]
  have : (32 : UInt8).toNat = 32 := rfl
  omega
attribute [local go_sem high] sub_32
theorem valueOf_any (c : UInt8) (w : World) : Calls Try.prog 71 #[.int .u8 c.toNat] w fun e w' => e = .returned (.int .i64 (Ur.val c)) ∧ w' = w := by
  have C0 := Lib.hid (fun v : World => isSmall_any c v)
  have hv := val_tab c.toNat c.toNat_lt
  rw [UInt8.ofNat_toNat] at hv
  generalize Ur.sml c = b0 at *
  obtain ⟨r, hr⟩ : ∃ r, r = Ur.val c := ⟨_, rfl⟩
  rw [← hr] at hv ⊢
  clear hr
  cases b0
  · simp only [Bool.false_eq_true, if_false] at hv
    have C1 := Lib.hid (fun v : World => indexByte_bs [48, 49, 50, 51, 52, 53, 54, 55, 56, 57, 65, 66, 67, 68, 69, 70] c v)
    rw [hv, ← lit16] at C1
    clear hv
    go_enter Try.func71, Try.ntmps71
    go_wp2_with (first | (go_at_call 49; refine (C0.out _).mono ?_; rintro e w' ⟨rfl, rfl⟩) | (go_at_call 52; refine (C1.out _).mono ?_; rintro e w' ⟨rfl, rfl⟩))
    go_ret
    exact ⟨rfl, rfl⟩
  · simp only [if_true] at hv
    have C1 := Lib.hid (fun v : World => indexByte_bs [48, 49, 50, 51, 52, 53, 54, 55, 56, 57, 65, 66, 67, 68, 69, 70] (c - 32) v)
    rw [hv, ← lit16] at C1
    clear hv
    go_enter Try.func71, Try.ntmps71
    go_wp2_with (first | (go_at_call 49; refine (C0.out _).mono ?_; rintro e w' ⟨rfl, rfl⟩) | (go_at_call 52; refine (C1.out _).mono ?_; rintro e w' ⟨rfl, rfl⟩))
    go_ret
    exact ⟨rfl, rfl⟩
end Go.Proofs.Ytiodbkloecpdcaa

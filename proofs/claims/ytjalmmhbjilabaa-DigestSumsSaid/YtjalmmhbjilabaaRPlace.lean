/- The walk of the document's own place of a byte in a table. -/
import Derived.Test.YtjalmmhbjilabaaBase64
namespace Go.Proofs.Ytjalmmhbjilabaa
open Go.RowKit

theorem half_place : ∀ n, n < 256 → Dig.halfN n < 16 → (Dig.digits16.getD (Dig.halfN n) 0).toNat = n ∧ ∀ j, j < Dig.halfN n → (Dig.digits16.getD j 0).toNat ≠ n := by decide +kernel
theorem half_nowhere : ∀ n, n < 256 → Dig.halfN n = 16 → ∀ j, j < 16 → (Dig.digits16.getD j 0).toNat ≠ n := by decide +kernel
theorem value_place : ∀ n, n < 256 → Dig.valueN n < 64 → (Dig.digits64.getD (Dig.valueN n) 0).toNat = n ∧ ∀ j, j < Dig.valueN n → (Dig.digits64.getD j 0).toNat ≠ n := by decide +kernel
theorem value_nowhere : ∀ n, n < 256 → ¬ Dig.valueN n < 64 → ∀ j, j < 64 → (Dig.digits64.getD j 0).toNat ≠ n := by decide +kernel
theorem eq_byte {a b : UInt8} (h : a.toNat = b.toNat) : ((a.toNat : Int) == (b.toNat : Int)) = true := by rw [h]; simp
theorem ne_byte {a b : UInt8} (h : a.toNat ≠ b.toNat) : ((a.toNat : Int) == (b.toNat : Int)) = false := by simp; omega
attribute [local go_sem high] run_index_byte

set_option maxHeartbeats 1000000 in
theorem rplace_at (t : ByteArray) (x : UInt8) (i : Nat) (ht : t.size ≤ 64) (hi : i < t.size) (he : (strAt t i).toNat = x.toNat) (hne : ∀ j, j < i → (strAt t j).toNat ≠ x.toNat) (w : World) :
    Calls Try.prog 45 #[.string t, .int .u8 x.toNat] w fun e w' => e = .returned (.int .i64 i) ∧ w = w' := by
  go_enter Try.func45, Try.ntmps45
  go_wp2_with fail
  go_loopw [5] (fun k wr => ∃ j : Nat, j ≤ i ∧ k = .int .i64 j ∧ wr = w) (fun k _ => i - (intOf k).toNat)
  case atStart => exact ⟨0, by omega, rfl, rfl⟩
  case round =>
    obtain ⟨j, hj, rfl, rfl⟩ := hrel
    have hlt : j < t.size := by omega
    by_cases hji : j = i
    · subst hji
      have hb := eq_byte he
      clear he hne
      go_wp2_with fail
      go_ret
      exact ⟨rfl, rfl⟩
    · have hb := ne_byte (hne j (by omega))
      clear he hne
      go_wp2_with fail
      go_roundw
      case rel => exact ⟨j + 1, by omega, by go_num, trivial⟩
      case measure => simp [intOf]; omega
set_option maxHeartbeats 1000000 in
theorem rplace_no (t : ByteArray) (x : UInt8) (ht : t.size ≤ 64) (hne : ∀ j, j < t.size → (strAt t j).toNat ≠ x.toNat) (w : World) :
    Calls Try.prog 45 #[.string t, .int .u8 x.toNat] w fun e w' => e = .returned (.int .i64 (-1)) ∧ w = w' := by
  go_enter Try.func45, Try.ntmps45
  go_wp2_with fail
  go_loopw [5] (fun k wr => ∃ j : Nat, j ≤ t.size ∧ k = .int .i64 j ∧ wr = w) (fun k _ => t.size - (intOf k).toNat)
  case atStart => exact ⟨0, by omega, rfl, rfl⟩
  case round =>
    obtain ⟨j, hj, rfl, rfl⟩ := hrel
    by_cases hlt : j < t.size
    · have hb := ne_byte (hne j hlt)
      clear hne
      go_wp2_with fail
      go_roundw
      case rel => exact ⟨j + 1, by omega, by go_num, trivial⟩
      case measure => simp [intOf]; omega
    · obtain rfl : j = t.size := by omega
      clear hne
      go_wp2_with fail
      go_ret
      exact ⟨rfl, rfl⟩
theorem strAt_tab16 (j : Nat) : strAt tab16 j = Dig.digits16.getD j 0 := by rw [strAt_eq, tab16_list]
theorem strAt_tab64 (j : Nat) : strAt tab64 j = Dig.digits64.getD j 0 := by rw [strAt_eq, tab64_list]
theorem place16_yes (c : UInt8) (h : Dig.half c < 16) (w : World) : Calls Try.prog 45 #[.string tab16, .int .u8 c.toNat] w fun e w' => e = .returned (.int .i64 (Dig.half c)) ∧ w = w' := by
  rw [Dig.half_eq] at h
  have := half_place c.toNat c.toNat_lt h
  rw [Dig.half_eq]
  exact rplace_at tab16 c (Dig.halfN c.toNat) (by rw [tab16_size]; omega) (by rw [tab16_size]; omega) (by rw [strAt_tab16]; exact this.1) (fun j hj => by rw [strAt_tab16]; exact this.2 j hj) w
theorem place16_no (c : UInt8) (h : Dig.half c = 16) (w : World) : Calls Try.prog 45 #[.string tab16, .int .u8 c.toNat] w fun e w' => e = .returned (.int .i64 (-1)) ∧ w = w' := by
  rw [Dig.half_eq] at h
  exact rplace_no tab16 c (by rw [tab16_size]; omega) (fun j hj => by rw [strAt_tab16]; exact half_nowhere c.toNat c.toNat_lt h j (by rw [tab16_size] at hj; omega)) w
theorem place64_yes (c : UInt8) (h : Dig.value c < 64) (w : World) : Calls Try.prog 45 #[.string tab64, .int .u8 c.toNat] w fun e w' => e = .returned (.int .i64 (Dig.value c)) ∧ w = w' := by
  rw [Dig.value_eq] at h
  have := value_place c.toNat c.toNat_lt h
  rw [Dig.value_eq]
  exact rplace_at tab64 c (Dig.valueN c.toNat) (by rw [tab64_size]; omega) (by rw [tab64_size]; omega) (by rw [strAt_tab64]; exact this.1) (fun j hj => by rw [strAt_tab64]; exact this.2 j hj) w
theorem place64_no (c : UInt8) (h : ¬ Dig.value c < 64) (w : World) : Calls Try.prog 45 #[.string tab64, .int .u8 c.toNat] w fun e w' => e = .returned (.int .i64 (-1)) ∧ w = w' := by
  rw [Dig.value_eq] at h
  exact rplace_no tab64 c (by rw [tab64_size]; omega) (fun j hj => by rw [strAt_tab64]; exact value_nowhere c.toNat c.toNat_lt h j (by rw [tab64_size] at hj; omega)) w
end Go.Proofs.Ytjalmmhbjilabaa

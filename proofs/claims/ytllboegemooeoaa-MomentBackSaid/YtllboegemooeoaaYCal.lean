/- The program's calendar. -/
import Derived.Test.YtllboegemooeoaaYBase
import Derived.BigQuiet
import Derived.Deep.QuietTactic
namespace Go.Proofs.Ytllboegemooeoaa
open Go.RowKit

theorem ret_bool {a b : Bool} (h : a = b) : Ending.returned (.bool a) = .returned (.bool b) := by rw [h]
theorem isLeap_any (y : Nat) (hy : y < 100000) (w : World) : Calls Try.prog 42 #[.int .i64 y] w fun e w' => e = .returned (.bool (Mo.lp y)) ∧ w = w' := by
  go_enter Try.func42, Try.ntmps42
  go_wp2
  all_goals
    go_ret
    refine ⟨ret_bool ?_, rfl⟩
    rw [Bool.eq_iff_iff, Mo.lp_iff]
    first | (simp; omega) | (simp only [beq_iff_eq, iff_true, true_iff]; omega) | omega
theorem leapsAhead_any (y : Nat) (hy : y < 100000) (h1 : 1 ≤ y) (w : World) : Calls Try.prog 46 #[.int .i64 y] w fun e w' => e = .returned (.int .i64 (Mo.la y)) ∧ w = w' := by
  go_enter Try.func46, Try.ntmps46
  go_wp2
  go_ret
  exact ⟨ret_int (by unfold Mo.la; omega), rfl⟩
theorem leaps_1970 (w : World) : Calls Try.prog 46 #[.int .i64 1970] w fun e w' => e = .returned (.int .i64 477) ∧ w = w' := leapsAhead_any 1970 (by omega) (by omega) w
theorem daysToYear_any (y : Nat) (hy : y ≤ 10000) (h1 : 1970 ≤ y) (w : World) : Calls Try.prog 41 #[.int .i64 y] w fun e w' => e = .returned (.int .i64 (Mo.D y)) ∧ w = w' := by
  have h2 := leapsAhead_any y (by omega) (by omega)
  have h3 : Mo.la y ≤ 10000 := by unfold Mo.la; omega
  have h4 := Mo.la_ge y h1
  have e1 : (Mo.D y : Int) = 365 * ((y : Int) - 1970) + (Mo.la y : Int) - 477 := by unfold Mo.D; omega
  rw [e1]
  clear e1
  generalize Mo.la y = L at h2 h3 h4 ⊢
  have H2 := Lib.hid h2
  clear h2
  go_enter Try.func41, Try.ntmps41
  go_wp2_with (first | (go_at_call 46; first | (with_reducible refine (H2.out _).mono ?_; rintro e w' ⟨rfl, rfl⟩) | ((with_reducible refine (leaps_1970 _).mono ?_); rintro e w' ⟨rfl, rfl⟩)))
  go_ret
  exact ⟨rfl, rfl⟩
theorem daysIn_1 (y m : Nat) (hm : m = 1 ∨ m = 3 ∨ m = 5 ∨ m = 7 ∨ m = 8 ∨ m = 10 ∨ m = 12 ∨ m = 4 ∨ m = 6 ∨ m = 9 ∨ m = 11) (w : World) : Calls Try.prog 29 #[.int .i64 y, .int .i64 m] w fun e w' => e = .returned (.int .i64 (Mo.ml y m)) ∧ w = w' := by
  rcases hm with rfl | rfl | rfl | rfl | rfl | rfl | rfl | rfl | rfl | rfl | rfl
  all_goals
    go_enter Try.func29, Try.ntmps29
    go_wp2_with fail
    go_ret
    exact ⟨rfl, rfl⟩
theorem daysIn_2 (y : Nat) (hy : y < 100000) (w : World) : Calls Try.prog 29 #[.int .i64 y, .int .i64 2] w fun e w' => e = .returned (.int .i64 (Mo.ml y 2)) ∧ w = w' := by
  have h := isLeap_any y hy
  have e1 : Mo.ml y 2 = if Mo.lp y then 29 else 28 := rfl
  rw [e1]
  clear e1
  generalize Mo.lp y = b at h ⊢
  have H := Lib.hid h
  clear h
  go_enter Try.func29, Try.ntmps29
  cases b with
  | true =>
    go_wp2_with (go_at_call 42; refine (H.out _).mono ?_; rintro e w' ⟨rfl, rfl⟩)
    go_ret
    exact ⟨rfl, rfl⟩
  | false =>
    go_wp2_with (go_at_call 42; refine (H.out _).mono ?_; rintro e w' ⟨rfl, rfl⟩)
    go_ret
    exact ⟨rfl, rfl⟩
theorem daysIn_any (y m : Nat) (hy : y < 100000) (h1 : 1 ≤ m) (h2 : m ≤ 12) (w : World) : Calls Try.prog 29 #[.int .i64 y, .int .i64 m] w fun e w' => e = .returned (.int .i64 (Mo.ml y m)) ∧ w = w' := by
  by_cases h : m = 2
  · subst h; exact daysIn_2 y hy w
  · exact daysIn_1 y m (by omega) w
theorem daysIn_none (y : Nat) (m : Int) (hm : m < 1 ∨ 12 < m) (w : World) : Calls Try.prog 29 #[.int .i64 y, .int .i64 m] w fun e w' => e = .returned (.int .i64 0) ∧ w = w' := by
  have n1 : (m == 1) = false := by simp; omega
  have n2 : (m == 2) = false := by simp; omega
  have n3 : (m == 3) = false := by simp; omega
  have n4 : (m == 4) = false := by simp; omega
  have n5 : (m == 5) = false := by simp; omega
  have n6 : (m == 6) = false := by simp; omega
  have n7 : (m == 7) = false := by simp; omega
  have n8 : (m == 8) = false := by simp; omega
  have n9 : (m == 9) = false := by simp; omega
  have n10 : (m == 10) = false := by simp; omega
  have n11 : (m == 11) = false := by simp; omega
  have n12 : (m == 12) = false := by simp; omega
  go_enter Try.func29, Try.ntmps29
  go_wp2_with fail
  go_ret
  exact ⟨rfl, rfl⟩
set_option maxHeartbeats 1000000 in
theorem daysTo_any (y m d : Nat) (hy : y ≤ 9999) (h1 : 1970 ≤ y) (hm1 : 1 ≤ m) (hm2 : m ≤ 12) (hd1 : 1 ≤ d) (hd2 : d ≤ 31) (w : World) : Calls Try.prog 30 #[.int .i64 y, .int .i64 m, .int .i64 d] w fun e w' => e = .returned (.int .i64 ((Mo.D y + Mo.mm y m + d - 1 : Nat) : Int)) ∧ w = w' := by
  have hD := Mo.D_le (a := y + 1) (b := 10000) (by omega) (by omega)
  rw [Mo.D_last, Mo.D_succ y h1] at hD
  have hc := daysToYear_any y (by omega) h1
  have hmm : ∀ k, k ≤ 13 → Mo.mm y k ≤ 366 := fun k hk => by
    have := Mo.mm_le y hk
    rw [Mo.mm_13] at this
    have h2 : Mo.yl y ≤ 366 := by unfold Mo.yl; split <;> omega
    omega
  have hms : ∀ k, Mo.mm y (k + 1) = Mo.mm y k + Mo.ml y k := fun k => rfl
  have hm0 := Mo.mm_one y
  have hml := fun (k : Nat) (h1 : 1 ≤ k) (h2 : k ≤ 12) => daysIn_any y k (by omega) h1 h2
  have hl : ∀ k, Mo.ml y k ≤ 31 := fun k => Mo.ml_le y k
  have hD2 : Mo.D y ≤ 2932897 := by omega
  clear hD
  obtain ⟨q, hq⟩ : ∃ q, q = Mo.mm y := ⟨_, rfl⟩
  obtain ⟨l, hl2⟩ : ∃ l, l = Mo.ml y := ⟨_, rfl⟩
  obtain ⟨z, hz⟩ : ∃ z, z = Mo.D y := ⟨_, rfl⟩
  rw [← hq, ← hz]
  rw [← hz] at hc hD2
  rw [← hl2] at hml hms hl
  rw [← hq] at hmm hms hm0
  clear hq hl2 hz
  have HC := Lib.hid hc; have HMM := Lib.hid hmm; have HMS := Lib.hid hms; have HM0 := Lib.hid hm0; have HML := Lib.hid hml; have HL := Lib.hid hl
  clear hc hmm hms hm0 hml hl
  go_enter Try.func30, Try.ntmps30
  go_wp2_with (go_at_call 41; refine (HC.out _).mono ?_; rintro e w' ⟨rfl, rfl⟩)
  go_loopw [7, 8] (fun s a wr => ∃ (k g : Nat), 1 ≤ k ∧ k ≤ m ∧ a = .int .i64 k ∧ s = .int .i64 g ∧ g = z + q k + d - 1 ∧ wr = w) (fun _ a _ => m - (intOf a).toNat)
  case atStart => exact ⟨1, z + d - 1, by omega, by omega, rfl, by congr 1; omega, by rw [HM0.out]; omega, rfl⟩
  case round =>
    obtain ⟨k, g, hk1, hk2, rfl, rfl, hg, rfl⟩ := hrel
    have b1 := HMM.out k (by omega)
    have HG := Lib.hid hg
    have hgb : g ≤ 2940000 := by omega
    clear hg
    by_cases hlt : k < m
    · obtain ⟨x, hx⟩ : ∃ x, x = l k := ⟨_, rfl⟩
      have hcx := HML.out k hk1 (by omega)
      rw [← hx] at hcx
      have hxl := HL.out k
      rw [← hx] at hxl
      have HX := Lib.hid hx; have HCX := Lib.hid hcx
      clear hx hcx
      go_wp2_with (go_at_call 29; refine (HCX.out _).mono ?_; rintro e w' ⟨rfl, rfl⟩)
      go_roundw
      case rel => exact ⟨k + 1, g + x, by omega, by omega, by go_num, by go_num, by rw [HMS.out, HG.out, HX.out]; omega, trivial⟩
      case measure => simp [intOf]; omega
    · obtain rfl : k = m := by omega
      go_wp2_with fail
      go_ret
      exact ⟨by rw [HG.out]; rfl, rfl⟩
end Go.Proofs.Ytllboegemooeoaa

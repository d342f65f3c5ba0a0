/- The document's own calendar: days of a month, the moment of a date. -/
import Derived.Test.YtllboegemooeoaaYCal2
namespace Go.Proofs.Ytllboegemooeoaa
open Go.RowKit

theorem qdays_of (y : Nat) (hy : y < 100000) (m v : Nat) (hm : m = 0 ∧ v = Mo.yl y ∨ 1 ≤ m ∧ m ≤ 12 ∧ v = Mo.ml y m) (w : World) : Calls Try.prog 31 #[.int .i64 y, .int .i64 m] w fun e w' => e = .returned (.int .i64 v) ∧ w = w' := by
  have hl : (Mo.lp y = true) ↔ _ := Mo.lp_iff y
  have e1 : Mo.yl y = if Mo.lp y then 366 else 365 := rfl
  have hv : (m = 0 ∧ v = (if Mo.lp y then 366 else 365)) ∨ (m = 2 ∧ v = (if Mo.lp y then 29 else 28)) ∨ ((m = 4 ∨ m = 6 ∨ m = 9 ∨ m = 11) ∧ v = 30) ∨ ((m = 1 ∨ m = 3 ∨ m = 5 ∨ m = 7 ∨ m = 8 ∨ m = 10 ∨ m = 12) ∧ v = 31) := by
    rcases hm with ⟨h1, h2⟩ | ⟨h1, h2, h3⟩
    · exact .inl ⟨h1, h2⟩
    · rw [h3]
      unfold Mo.ml
      by_cases k1 : m = 2
      · exact .inr (.inl ⟨k1, by rw [if_pos k1]⟩)
      · rw [if_neg k1]
        by_cases k2 : m = 4 ∨ m = 6 ∨ m = 9 ∨ m = 11
        · exact .inr (.inr (.inl ⟨k2, by rw [if_pos k2]⟩))
        · rw [if_neg k2, if_pos (by omega)]
          exact .inr (.inr (.inr ⟨by omega, rfl⟩))
  clear hm e1
  have HL := Lib.hid hl
  clear hl
  by_cases h4 : y % 4 = 0
  · by_cases h100 : y % 100 = 0
    · by_cases h400 : y % 400 = 0
      · have hb : Mo.lp y = true := HL.out.2 ⟨h4, .inr h400⟩
        have n1 : ((y : Int) % 4 == 0) = true := by simp; omega
        have n2 : ((y : Int) % 100 != 0) = false := by simp; omega
        have n3 : ((y : Int) % 400 == 0) = true := by simp; omega
        simp only [hb, if_true] at hv
        clear h4 h100 h400 hb
        rcases hv with ⟨rfl, rfl⟩ | ⟨rfl, rfl⟩ | ⟨rfl | rfl | rfl | rfl, rfl⟩ | ⟨rfl | rfl | rfl | rfl | rfl | rfl | rfl, rfl⟩
        all_goals
          go_enter Try.func31, Try.ntmps31
          go_wp2_with fail
          go_ret
          exact ⟨rfl, rfl⟩
      · have hb : Mo.lp y = false := by
          cases h : Mo.lp y with
          | false => rfl
          | true => have := HL.out.1 h; omega
        have n1 : ((y : Int) % 4 == 0) = true := by simp; omega
        have n2 : ((y : Int) % 100 != 0) = false := by simp; omega
        have n3 : ((y : Int) % 400 == 0) = false := by simp; omega
        simp only [hb] at hv
        clear h4 h100 h400 hb
        rcases hv with ⟨rfl, rfl⟩ | ⟨rfl, rfl⟩ | ⟨rfl | rfl | rfl | rfl, rfl⟩ | ⟨rfl | rfl | rfl | rfl | rfl | rfl | rfl, rfl⟩
        all_goals
          go_enter Try.func31, Try.ntmps31
          go_wp2_with fail
          go_ret
          exact ⟨rfl, rfl⟩
    · have hb : Mo.lp y = true := HL.out.2 ⟨h4, .inl h100⟩
      have n1 : ((y : Int) % 4 == 0) = true := by simp; omega
      have n2 : ((y : Int) % 100 != 0) = true := by simp; omega
      simp only [hb, if_true] at hv
      clear h4 h100 hb
      rcases hv with ⟨rfl, rfl⟩ | ⟨rfl, rfl⟩ | ⟨rfl | rfl | rfl | rfl, rfl⟩ | ⟨rfl | rfl | rfl | rfl | rfl | rfl | rfl, rfl⟩
      all_goals
        go_enter Try.func31, Try.ntmps31
        go_wp2_with fail
        go_ret
        exact ⟨rfl, rfl⟩
  · have hb : Mo.lp y = false := by
      cases h : Mo.lp y with
      | false => rfl
      | true => have := HL.out.1 h; omega
    have n1 : ((y : Int) % 4 == 0) = false := by simp; omega
    simp only [hb] at hv
    clear h4 hb
    rcases hv with ⟨rfl, rfl⟩ | ⟨rfl, rfl⟩ | ⟨rfl | rfl | rfl | rfl, rfl⟩ | ⟨rfl | rfl | rfl | rfl | rfl | rfl | rfl, rfl⟩
    all_goals
      go_enter Try.func31, Try.ntmps31
      go_wp2_with fail
      go_ret
      exact ⟨rfl, rfl⟩
theorem qdays_y (y : Nat) (hy : y < 100000) (w : World) : Calls Try.prog 31 #[.int .i64 y, .int .i64 0] w fun e w' => e = .returned (.int .i64 (Mo.yl y)) ∧ w = w' := qdays_of y hy 0 _ (.inl ⟨rfl, rfl⟩) w
theorem qdays_m (y : Nat) (hy : y < 100000) (m : Nat) (h1 : 1 ≤ m) (h2 : m ≤ 12) (w : World) : Calls Try.prog 31 #[.int .i64 y, .int .i64 m] w fun e w' => e = .returned (.int .i64 (Mo.ml y m)) ∧ w = w' := qdays_of y hy m _ (.inr ⟨h1, h2, rfl⟩) w
set_option maxRecDepth 100000 in
set_option maxHeartbeats 1000000 in
theorem qFrom_ok (n y m d : Nat) (h : Mo.IsD n y m d) (w : World) : Calls Try.prog 25 #[.int .i64 y, .int .i64 m, .int .i64 d] w fun e w' => e = .returned (.int .i64 ((n * 86400 : Nat) : Int)) ∧ w = w' := by
  have y1 := h.y1; have y2 := h.y2; have m1 := h.m1; have m2 := h.m2; have d1 := h.d1; have d2 := h.d2
  have hl := Mo.ml_le y m
  have hdi := qdays_m y (by omega) m m1 m2
  have hn := h.lt
  have H := Lib.hid h
  have hys := fun (k : Nat) (_ : 1970 ≤ k) (h2 : k ≤ 9999) => qdays_y k (by omega)
  have hms := fun (k : Nat) (h1 : 1 ≤ k) (h2 : k ≤ 12) => qdays_m y (by omega) k h1 h2
  clear h
  obtain ⟨L, hL⟩ : ∃ L, L = Mo.ml y m := ⟨_, rfl⟩
  rw [← hL] at hdi hl d2
  have HL := Lib.hid hL
  have HDI := Lib.hid hdi; have HYS := Lib.hid hys; have HMS := Lib.hid hms
  clear hdi hys hms hL
  have n1 : decide ((y : Int) < 1970) = false := decide_eq_false (by omega)
  have n2 : decide (9999 < (y : Int)) = false := decide_eq_false (by omega)
  have n3 : decide ((m : Int) < 1) = false := decide_eq_false (by omega)
  have n4 : decide (12 < (m : Int)) = false := decide_eq_false (by omega)
  have n5 : decide ((d : Int) < 1) = false := decide_eq_false (by omega)
  have n6 : decide ((L : Int) < (d : Int)) = false := decide_eq_false (by omega)
  have n7 : decide (L < d) = false := decide_eq_false (by omega)
  go_enter Try.func25, Try.ntmps25
  go_wp2_with (first | (go_at_call 31; refine (HDI.out _).mono ?_; rintro e w' ⟨rfl, rfl⟩))
  go_loopw [7, 8] (fun s a wr => ∃ (k g : Nat), 1970 ≤ k ∧ k ≤ y ∧ a = .int .i64 k ∧ s = .int .i64 g ∧ Hid (g = d - 1 + Mo.D k) ∧ g ≤ 4000000 ∧ w = wr) (fun _ a _ => y - (intOf a).toNat)
  case atStart => exact ⟨1970, d - 1, by omega, y1, rfl, by congr 1; omega, Lib.hid (by rw [Mo.D_first]; rfl), by omega, rfl⟩
  case round =>
    obtain ⟨k, g, hk1, hk2, rfl, rfl, hg, hg2, rfl⟩ := hrel
    by_cases hlt : k < y
    · have hc := HYS.out k hk1 (by omega)
      have hs := Mo.D_succ k hk1
      have hyl : Mo.yl k ≤ 366 := by unfold Mo.yl; split <;> omega
      have hle := Mo.D_le (a := k + 1) (b := 10000) (by omega) (by omega)
      rw [Mo.D_last, hs] at hle
      have hg0 := hg.out
      obtain ⟨x, hx⟩ : ∃ x, x = Mo.yl k := ⟨_, rfl⟩
      rw [← hx] at hc hs hyl hle
      have hgx : g + x ≤ 4000000 := by omega
      have HC := Lib.hid hc; have HSS := Lib.hid hs
      clear hc hs hx hle hg0
      go_wp2_with (first | (go_at_call 31; refine (HC.out _).mono ?_; rintro e w' ⟨rfl, rfl⟩))
      go_roundw
      case rel => exact ⟨k + 1, g + x, by omega, by omega, by go_num, by go_num, Lib.hid (by rw [HSS.out]; have := hg.out; omega), hgx, trivial⟩
      case measure => simp [intOf]; omega
    · obtain rfl : k = y := by omega
      go_wp2_with fail
      go_loopw [7, 9] (fun s a wr => ∃ (j g : Nat), 1 ≤ j ∧ j ≤ m ∧ a = .int .i64 j ∧ s = .int .i64 g ∧ Hid (g = d - 1 + Mo.D k + Mo.mm k j) ∧ g ≤ 4001000 ∧ w = wr) (fun _ a _ => m - (intOf a).toNat)
      case atStart => exact ⟨1, g, by omega, m1, rfl, rfl, Lib.hid (by rw [Mo.mm_one]; have := hg.out; omega), by omega, rfl⟩
      case round =>
        obtain ⟨j, g', hj1, hj2, rfl, rfl, hg', hg2', rfl⟩ := hrel
        by_cases hltj : j < m
        · have hc := HMS.out j hj1 (by omega)
          have hs : Mo.mm k (j + 1) = Mo.mm k j + Mo.ml k j := rfl
          have hmx := Mo.mm_le k (a := j + 1) (b := 13) (by omega)
          have hyl : Mo.yl k ≤ 366 := by unfold Mo.yl; split <;> omega
          rw [Mo.mm_13, hs] at hmx
          have hg0 := hg'.out; have hg1 := hg.out
          obtain ⟨x, hx⟩ : ∃ x, x = Mo.ml k j := ⟨_, rfl⟩
          rw [← hx] at hc hs hmx
          have hgx : g' + x ≤ 4001000 := by omega
          have HC := Lib.hid hc; have HSS := Lib.hid hs
          clear hc hs hx hmx hg0 hg1 hyl
          go_wp2_with (first | (go_at_call 31; refine (HC.out _).mono ?_; rintro e w' ⟨rfl, rfl⟩))
          go_roundw
          case rel => exact ⟨j + 1, g' + x, by omega, by omega, by go_num, by go_num, Lib.hid (by rw [HSS.out]; have := hg'.out; omega), hgx, trivial⟩
          case measure => simp [intOf]; omega
        · obtain rfl : j = m := by omega
          have hN : g' = n := by have := H.out.n; have := hg'.out; omega
          subst hN
          go_wp2_with fail
          go_ret
          exact ⟨ret_int (by omega), rfl⟩
theorem qFrom_no (y m d : Int) (h : BadD y m d) (w : World) : Calls Try.prog 25 #[.int .i64 y, .int .i64 m, .int .i64 d] w fun e w' => e = .returned (.int .i64 (-1)) ∧ w = w' := by
  have h0 := h
  unfold BadD at h0
  by_cases h1 : y < 1970
  · clear h h0
    go_enter Try.func25, Try.ntmps25
    go_wp2_with fail
    go_ret
    exact ⟨rfl, rfl⟩
  by_cases h2 : 9999 < y
  · clear h h0
    go_enter Try.func25, Try.ntmps25
    go_wp2_with fail
    go_ret
    exact ⟨rfl, rfl⟩
  by_cases h3 : m < 1
  · clear h h0
    go_enter Try.func25, Try.ntmps25
    go_wp2_with fail
    go_ret
    exact ⟨rfl, rfl⟩
  by_cases h4 : 12 < m
  · clear h h0
    go_enter Try.func25, Try.ntmps25
    go_wp2_with fail
    go_ret
    exact ⟨rfl, rfl⟩
  by_cases h5 : d < 1
  · clear h h0
    go_enter Try.func25, Try.ntmps25
    go_wp2_with fail
    go_ret
    exact ⟨rfl, rfl⟩
  obtain ⟨Y, rfl⟩ : ∃ Y : Nat, y = Y := ⟨y.toNat, by omega⟩
  obtain ⟨M, rfl⟩ : ∃ M : Nat, m = M := ⟨m.toNat, by omega⟩
  have h5 : (Mo.ml Y M : Int) < d := by
    rcases h0 with h | h | h | h | h | ⟨Y', M', h, h', hd⟩
    · omega
    · omega
    · omega
    · omega
    · omega
    · have e1 : Y = Y' := by omega
      have e2 : M = M' := by omega
      subst e1; subst e2; exact hd
  have hdi := qdays_m Y (by omega) M (by omega) (by omega)
  clear h h0
  generalize Mo.ml Y M = L at hdi h5
  have HDI := Lib.hid hdi
  clear hdi
  go_enter Try.func25, Try.ntmps25
  go_wp2_with (first | (go_at_call 31; refine (HDI.out _).mono ?_; rintro e w' ⟨rfl, rfl⟩))
  go_ret
  exact ⟨rfl, rfl⟩
end Go.Proofs.Ytllboegemooeoaa

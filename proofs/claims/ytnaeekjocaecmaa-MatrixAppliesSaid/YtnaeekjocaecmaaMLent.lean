/- What MatrixApplies and MatrixReckons hand over: whether a matrix is wide, a matrix lent. -/
import Derived.Test.YtnaeekjocaecmaaMRefP
namespace Go.Proofs.Ytnaeekjocaecmaa
open Go.RowKit

@[irreducible] def wideB (r c : Int) (len : Nat) : Bool := decide (40 < r ∨ 40 < c ∨ 1600 < len)
theorem wideB_eq (r c : Int) (len : Nat) : wideB r c len = decide (40 < r ∨ 40 < c ∨ 1600 < len) := by unfold wideB; rfl
set_option maxRecDepth 20000 in
set_option maxHeartbeats 2000000 in
theorem wide_any (r c : Int) (a0 : Option Addr) (len cap : Nat) (w : World) : Calls Try.prog 19 #[.agg #[.int .i64 r, .int .i64 c, .slice a0 len cap]] w fun e w' => e = .returned (.bool (wideB r c len)) ∧ Below w.heap.size w w' := by
  obtain ⟨q, hq⟩ : ∃ q, wideB r c len = q := ⟨_, rfl⟩
  rw [hq]
  rw [wideB_eq] at hq
  obtain ⟨wa, hwa⟩ : ∃ wa, wa = w.alloc (.cells #[.int .i64 r, .int .i64 c, .slice a0 len cap] 24) := ⟨_, rfl⟩
  have R0 : Hid (RA r c a0 len cap w wa) := Lib.hid (by rw [hwa]; exact RA.new _ _ _ _ _ _)
  have HWA := Lib.hid hwa
  have HQ := Lib.hid hq
  obtain ⟨d0, d1, d2⟩ := heap_cell0 R0.out.box
  clear hwa hq
  by_cases h1 : 40 < r
  · have b1 : decide (40 < r) = true := decide_eq_true h1
    have HV : Hid (q = true) := Lib.hid (by rw [← HQ.out]; exact decide_eq_true (.inl h1))
    go_enter Try.func19, Try.ntmps19
    go_wp2_with fail
    rw [← HWA.out]
    go_ret
    exact ⟨ret_bool HV.out.symm, R0.out.old⟩
  · have b1 : decide (40 < r) = false := decide_eq_false h1
    by_cases h2 : 40 < c
    · have b2 : decide (40 < c) = true := decide_eq_true h2
      have HV : Hid (q = true) := Lib.hid (by rw [← HQ.out]; exact decide_eq_true (.inr (.inl h2)))
      go_enter Try.func19, Try.ntmps19
      go_wp2_with fail
      rw [← HWA.out]
      go_ret
      exact ⟨ret_bool HV.out.symm, R0.out.old⟩
    · have b2 : decide (40 < c) = false := decide_eq_false h2
      by_cases h3 : 1600 < len
      · have b3 : decide ((1600 : Int) < (len : Int)) = true := decide_eq_true (by omega)
        have HV : Hid (q = true) := Lib.hid (by rw [← HQ.out]; exact decide_eq_true (.inr (.inr h3)))
        go_enter Try.func19, Try.ntmps19
        go_wp2_with fail
        rw [← HWA.out]
        go_ret
        exact ⟨ret_bool HV.out.symm, R0.out.old⟩
      · have b3 : decide ((1600 : Int) < (len : Int)) = false := decide_eq_false (by omega)
        have HV : Hid (q = false) := Lib.hid (by rw [← HQ.out]; exact decide_eq_false (by rintro (h | h | h); exact h1 h; exact h2 h; exact h3 h))
        go_enter Try.func19, Try.ntmps19
        go_wp2_with fail
        rw [← HWA.out]
        go_ret
        exact ⟨ret_bool HV.out.symm, R0.out.old⟩
end Go.Proofs.Ytnaeekjocaecmaa

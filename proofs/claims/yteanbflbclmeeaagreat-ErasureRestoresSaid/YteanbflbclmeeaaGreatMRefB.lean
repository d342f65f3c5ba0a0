/- The document's own Right; asking an error that may be none. -/
import Derived.Test.YteanbflbclmeeaaGreatMCall
namespace Go.Proofs.YteanbflbclmeeaaGreat
open Go.RowKit

set_option maxRecDepth 20000 in
set_option maxHeartbeats 2000000 in
theorem rRight_any (r c : Int) (a0 : Option Addr) (len cap : Nat) (w : World) : Calls Tryz.prog 41 #[.agg #[.int .i64 r, .int .i64 c, .slice a0 len cap]] w fun e w' => e = .returned (.bool (rightB r c len)) ∧ Below w.heap.size w w' := by
  have hR := rightB_eq r c len
  obtain ⟨wa, hwa⟩ : ∃ wa, wa = w.alloc (.cells #[.int .i64 r, .int .i64 c, .slice a0 len cap] 62) := ⟨_, rfl⟩
  have hba : Below w.heap.size w wa := by rw [hwa]; exact below_alloc _ _
  have hbx : wa.heap[w.heap.size]? = some (.cells [.int .i64 r, .int .i64 c, .slice a0 len cap].toArray 62 (0, 0)) := by rw [hwa]; exact heap_alloc_new _ _
  obtain ⟨e0, e1, e2⟩ := heap_cell0 hbx
  have HB := Lib.hid hba
  have HWA := Lib.hid hwa
  clear hba hbx hwa
  by_cases h1 : 1 ≤ r
  · have b1 : decide (1 ≤ r) = true := decide_eq_true h1
    by_cases h2 : r ≤ 255
    · have b2 : decide (r ≤ 255) = true := decide_eq_true h2
      by_cases h3 : 1 ≤ c
      · have b3 : decide (1 ≤ c) = true := decide_eq_true h3
        by_cases h4 : c ≤ 255
        · have b4 : decide (c ≤ 255) = true := decide_eq_true h4
          have hp := mul_small ⟨h1, h2⟩ ⟨h3, h4⟩
          have hv : rightB r c len = ((len : Int) == r * c) := by
            rw [hR]
            by_cases h5 : (len : Int) = r * c
            · simp only [h5, h1, h2, h3, h4, true_and, decide_true, beq_self_eq_true]
            · rw [decide_eq_false (fun h => h5 h.2.2.2.2)]; simp [h5]
          obtain ⟨p, hpe⟩ : ∃ p, r * c = p := ⟨_, rfl⟩
          rw [hpe] at hp hv
          have HP := Lib.hid hp
          have HV := Lib.hid hv
          have HE := Lib.hid hpe
          clear hR hv hp hpe
          obtain ⟨q, hq⟩ : ∃ q, ((len : Int) == p) = q := ⟨_, rfl⟩
          have hqq : ((len : Int) == wrap64 (r * c)) = q := by rw [HE.out, HP.out]; exact hq
          have HV2 : Hid (rightB r c len = q) := Lib.hid (by rw [HV.out]; exact hq)
          clear HV hq
          go_enter Tryz.func41, Tryz.ntmps41
          go_wp2_with fail
          rw [← HWA.out]
          go_ret
          exact ⟨ret_bool (by rw [HV2.out]), by first | exact HB.out | exact HB.out.drew | (exact below_drewN HB.out _)⟩
        · have b4 : decide (c ≤ 255) = false := decide_eq_false h4
          have HV : Hid (rightB r c len = false) := Lib.hid (by rw [hR]; exact decide_eq_false (fun h => h4 h.2.2.2.1))
          clear hR
          go_enter Tryz.func41, Tryz.ntmps41
          go_wp2_with fail
          rw [← HWA.out]
          go_ret
          exact ⟨ret_bool HV.out.symm, by first | exact HB.out | exact HB.out.drew | (exact below_drewN HB.out _)⟩
      · have b3 : decide (1 ≤ c) = false := decide_eq_false h3
        have HV : Hid (rightB r c len = false) := Lib.hid (by rw [hR]; exact decide_eq_false (fun h => h3 h.2.2.1))
        clear hR
        go_enter Tryz.func41, Tryz.ntmps41
        go_wp2_with fail
        rw [← HWA.out]
        go_ret
        exact ⟨ret_bool HV.out.symm, by first | exact HB.out | exact HB.out.drew | (exact below_drewN HB.out _)⟩
    · have b2 : decide (r ≤ 255) = false := decide_eq_false h2
      have HV : Hid (rightB r c len = false) := Lib.hid (by rw [hR]; exact decide_eq_false (fun h => h2 h.2.1))
      clear hR
      go_enter Tryz.func41, Tryz.ntmps41
      go_wp2_with fail
      rw [← HWA.out]
      go_ret
      exact ⟨ret_bool HV.out.symm, by first | exact HB.out | exact HB.out.drew | (exact below_drewN HB.out _)⟩
  · have b1 : decide (1 ≤ r) = false := decide_eq_false h1
    have HV : Hid (rightB r c len = false) := Lib.hid (by rw [hR]; exact decide_eq_false (fun h => h1 h.1))
    clear hR
    go_enter Tryz.func41, Tryz.ntmps41
    go_wp2_with fail
    rw [← HWA.out]
    go_ret
    exact ⟨ret_bool HV.out.symm, by first | exact HB.out | exact HB.out.drew | (exact below_drewN HB.out _)⟩
/-- A fault is not none. -/
theorem is_not0 (g : Nat) (w : World) : Calls Tryz.prog 8 #[.iface 69 (.pointer (some ⟨g, 0, none⟩)), .int .i64 0] w fun e w' => e = .returned (.bool false) ∧ w = w' := by
  go_enter Tryz.func8, Tryz.ntmps8
  go_wp2
  go_ret
  exact ⟨rfl, rfl⟩
end Go.Proofs.YteanbflbclmeeaaGreat

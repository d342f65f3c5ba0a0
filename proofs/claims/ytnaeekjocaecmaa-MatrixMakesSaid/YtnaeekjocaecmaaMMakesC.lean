/- What MatrixMakes asks: refusals, boxes without a matrix. -/
import Derived.Test.YtnaeekjocaecmaaMRefB
import Derived.Test.YtnaeekjocaecmaaMRefC
namespace Go.Proofs.Ytnaeekjocaecmaa
open Go.RowKit

/-- A box that holds any matrix's parts. -/
structure BoxV (B : Nat) (r c : Int) (a0 : Option Addr) (len cap : Nat) (w : World) : Prop where
  box : w.heap[B]? = some (.cells [Value.int .i64 r, .int .i64 c, .slice a0 len cap].toArray 24 (0, 0))
theorem BoxV.below {B : Nat} {r c : Int} {a0 : Option Addr} {len cap : Nat} {w w' : World} (h : BoxV B r c a0 len cap w) (hb : Below w.heap.size w w') : BoxV B r c a0 len cap w' := ⟨(hb.block B (lt_of_heap h.box)).trans h.box⟩
theorem tIdent_no (n : Int) (hn : n < 1 ∨ 255 < n) (w : World) : Calls Try.prog 10 #[.int .i64 n] w fun e w' => ∃ g, e = .returned (.tuple #[noneV, faultV g]) ∧ FaultAt g 1 0 w' ∧ Below w.heap.size w w' :=
  (Identity_bad n (by rw [mayB_eq]; exact decide_eq_false (by omega)) w).mono fun e w' hh => by
    obtain ⟨V, E, rfl, hP, hb⟩ := hh
    obtain ⟨g2, rfl, rfl, hF⟩ := hP.fault (by decide)
    exact ⟨g2, rfl, hF, hb⟩
theorem tCauchy_no (r c : Int) (h : (r < 1 ∨ 255 < r) ∨ (c < 1 ∨ 255 < c) ∨ 256 < r + c) (w : World) : Calls Try.prog 11 #[.int .i64 r, .int .i64 c] w fun e w' => ∃ g, e = .returned (.tuple #[noneV, faultV g]) ∧ FaultAt g 1 0 w' ∧ Below w.heap.size w w' := by
  have key : Calls Try.prog 11 #[.int .i64 r, .int .i64 c] w fun e w' => ∃ V E, e = .returned (.tuple #[V, E]) ∧ PA w.heap.size 1 0 0 zeroM V E w' ∧ Below w.heap.size w w' := by
    by_cases hr : 1 ≤ r ∧ r ≤ 255
    · have hr' : mayB r = true := by rw [mayB_eq]; exact decide_eq_true hr
      by_cases hc : 1 ≤ c ∧ c ≤ 255
      · exact Cauchy_bad3 r c hr' (by rw [mayB_eq]; exact decide_eq_true hc) (by omega) w
      · exact Cauchy_bad2 r c hr' (by rw [mayB_eq]; exact decide_eq_false hc) w
    · exact Cauchy_bad1 r c (by rw [mayB_eq]; exact decide_eq_false hr) w
  exact key.mono fun e w' hh => by
    obtain ⟨V, E, rfl, hP, hb⟩ := hh
    obtain ⟨g2, rfl, rfl, hF⟩ := hP.fault (by decide)
    exact ⟨g2, rfl, hF, hb⟩
theorem tUnder_none (w : World) : Calls Try.prog 17 #[noneV, noneV] w fun e w' => ∃ g, e = .returned (.tuple #[noneV, faultV g]) ∧ FaultAt g 1 0 w' ∧ Below w.heap.size w w' :=
  (Under_bad1 0 0 none 0 0 0 0 none 0 0 (by rw [rightB_eq]; decide) w).mono fun e w' hh => by
    obtain ⟨V, E, rfl, hP, hb⟩ := hh
    obtain ⟨g2, rfl, rfl, hF⟩ := hP.fault (by decide)
    exact ⟨g2, rfl, hF, hb⟩
theorem tUnder_much (g n N : Nat) (h1 : 128 ≤ n) (h2 : n ≤ 255) (hN : n * n = N) (w : World) : Calls Try.prog 17 #[mv g n n N, mv g n n N] w fun e w' => ∃ g, e = .returned (.tuple #[noneV, faultV g]) ∧ FaultAt g 1 0 w' ∧ Below w.heap.size w w' := by
  have hR : rightB n n N = true := by
    rw [rightB_eq]; exact decide_eq_true ⟨by omega, by omega, by omega, by omega, by rw [← hN]; simp⟩
  exact (Under_bad3 n n (some ⟨g, 0, none⟩) N N n n (some ⟨g, 0, none⟩) N N hR hR (by rw [mayB_eq]; exact decide_eq_false (by omega)) w).mono fun e w' hh => by
    obtain ⟨V, E, rfl, hP, hb⟩ := hh
    obtain ⟨g2, rfl, rfl, hF⟩ := hP.fault (by decide)
    exact ⟨g2, rfl, hF, hb⟩
theorem bool_self (b : Bool) : (b == b) = true := by cases b <;> rfl
end Go.Proofs.Ytnaeekjocaecmaa

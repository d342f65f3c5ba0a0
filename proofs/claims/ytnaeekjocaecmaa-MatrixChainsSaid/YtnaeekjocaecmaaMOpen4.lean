/- What is handed to a law of layer 7: four sizes. -/
import Derived.Test.YtnaeekjocaecmaaMOpen
import Derived.WideKeyArr2
namespace Go.Proofs.Ytnaeekjocaecmaa
open Go.ChangeShapes Go.WideShapes Go.ChangeAt Go.RowKit Go.Deep

section
variable {H : Type} {enc : TypeId × Value → H} {W : World}
set_option maxRecDepth 100000 in
theorem open_arr4 {base : Nat} {v : Value} {d : DataW H} {p : List MemPlace} (hv : Value.okWide Try.prog W .any base 61 v) (h : DataW.Trod enc Try.prog W 0 (fun _ => true) true 61 v d p) :
    ∃ y : Nat → Int, v = .agg #[.int .i64 (y 0), .int .i64 (y 1), .int .i64 (y 2), .int .i64 (y 3)] ∧ ∀ j, -9223372036854775808 ≤ y j ∧ y j ≤ 9223372036854775807 := by
  have hu : Try.prog.underlying 61 = some (.array 4 3) := Try.underlying61
  simp only [Value.okWide, hu] at hv
  obtain ⟨cs, rfl, hsz, _⟩ := hv
  obtain ⟨fuel, hf⟩ := h
  obtain ⟨xs, m, _, hx, hlen, hl, he⟩ := DataW.trod_array hu hf
  have hc4 : Try.prog.cellsOf 61 = 4 := by kernel_rfl
  have k0 : Try.prog.cellsOf 3 = 1 := by kernel_rfl
  rw [hc4] at hsz
  obtain ⟨v0, v1, v2, v3, rfl⟩ : ∃ v0 v1 v2 v3, cs = #[v0, v1, v2, v3] := by
    obtain ⟨l⟩ := cs
    match l, hsz with
    | [a, b, c, d], _ => exact ⟨a, b, c, d, rfl⟩
  obtain ⟨x0, x1, x2, x3, rfl⟩ : ∃ x0 x1 x2 x3, xs = [x0, x1, x2, x3] := by
    match xs, hl with
    | [a, b, c, d], _ => exact ⟨a, b, c, d, rfl⟩
  have e0 := he 0 (by decide)
  have e1 := he 1 (by decide)
  have e2 := he 2 (by decide)
  have e3 := he 3 (by decide)
  rw [k0] at e0 e1 e2 e3
  obtain ⟨y0, h0, _, w0⟩ := DataW.trod_int Try.underlying3 e0
  obtain ⟨y1, h1, _, w1⟩ := DataW.trod_int Try.underlying3 e1
  obtain ⟨y2, h2, _, w2⟩ := DataW.trod_int Try.underlying3 e2
  obtain ⟨y3, h3, _, w3⟩ := DataW.trod_int Try.underlying3 e3
  have g0 : v0 = .int .i64 y0 := by simpa [Value.cells] using h0
  have g1 : v1 = .int .i64 y1 := by simpa [Value.cells] using h1
  have g2 : v2 = .int .i64 y2 := by simpa [Value.cells] using h2
  have g3 : v3 = .int .i64 y3 := by simpa [Value.cells] using h3
  refine ⟨fun j => if j = 0 then y0 else if j = 1 then y1 else if j = 2 then y2 else y3, by rw [g0, g1, g2, g3]; rfl, fun j => ?_⟩
  show -9223372036854775808 ≤ (if j = 0 then y0 else if j = 1 then y1 else if j = 2 then y2 else y3) ∧ (if j = 0 then y0 else if j = 1 then y1 else if j = 2 then y2 else y3) ≤ 9223372036854775807
  by_cases q0 : j = 0
  · rw [if_pos q0]; exact wfi w0
  · rw [if_neg q0]
    by_cases q1 : j = 1
    · rw [if_pos q1]; exact wfi w1
    · rw [if_neg q1]
      by_cases q2 : j = 2
      · rw [if_pos q2]; exact wfi w2
      · rw [if_neg q2]; exact wfi w3
end
end Go.Proofs.Ytnaeekjocaecmaa

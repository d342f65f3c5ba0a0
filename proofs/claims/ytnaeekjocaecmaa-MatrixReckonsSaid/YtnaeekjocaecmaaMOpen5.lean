/- What is handed to a law of layer 7, with what nil says: a slice that is nil has no room. -/
import Derived.Test.YtnaeekjocaecmaaMOpen
namespace Go.Proofs.Ytnaeekjocaecmaa
open Go.ChangeShapes Go.WideShapes Go.ChangeAt Go.RowKit Go.Deep

section
variable {H : Type} {enc : TypeId × Value → H} {W : World}
theorem hand_none {fuel : Nat} {a0 : Option Addr} {len cap : Nat} {x : DataW H × List MemPlace} (h : DataW.trod enc Try.prog W 0 (fun _ => true) true fuel 22 [.slice a0 len cap] = some x) : a0 = none → cap = 0 := fun h0 => by
  rcases open_ints Try.underlying22 Try.underlying5 (by kernel_rfl) h with ⟨hcs, hx⟩ | ⟨a, len2, cap2, zs, hcs, _⟩
  · simp at hcs; exact hcs.2.2
  · simp at hcs; rw [h0] at hcs; simp at hcs
theorem texts_none {fuel : Nat} {a0 : Option Addr} {len cap : Nat} {x : DataW H × List MemPlace} (h : DataW.trod enc Try.prog W 0 (fun _ => true) true fuel 51 [.slice a0 len cap] = some x) : a0 = none → cap = 0 := fun h0 => by
  rcases open_strings Try.underlying51 Try.underlying9 (by kernel_rfl) h with ⟨hcs, hx⟩ | ⟨a, len2, cap2, zs, hcs, _⟩
  · simp at hcs; exact hcs.2.2
  · simp at hcs; rw [h0] at hcs; simp at hcs
theorem ints_none {fuel : Nat} {a0 : Option Addr} {len cap : Nat} {x : DataW H × List MemPlace} (h : DataW.trod enc Try.prog W 0 (fun _ => true) true fuel 39 [.slice a0 len cap] = some x) : a0 = none → cap = 0 := fun h0 => by
  rcases open_ints Try.underlying39 Try.underlying3 (by kernel_rfl) h with ⟨hcs, hx⟩ | ⟨a, len2, cap2, zs, hcs, _⟩
  · simp at hcs; exact hcs.2.2
  · simp at hcs; rw [h0] at hcs; simp at hcs
set_option maxRecDepth 100000 in
theorem open_matrix_z {base : Nat} {v : Value} {d : DataW H} {p : List MemPlace} (hv : Value.okWide Try.prog W .any base 24 v) (h : DataW.Trod enc Try.prog W 0 (fun _ => true) true 24 v d p) (hlt : ∀ y ∈ p, y.block < W.heap.size) :
    ∃ (r c : Int) (a0 : Option Addr) (len cap : Nat) (l : List UInt8), v = .agg #[.int .i64 r, .int .i64 c, .slice a0 len cap] ∧ Hand a0 len cap l W ∧ (a0 = none → cap = 0) ∧ (-9223372036854775808 ≤ r ∧ r ≤ 9223372036854775807) ∧ (-9223372036854775808 ≤ c ∧ c ≤ 9223372036854775807) := by
  obtain ⟨cs, rfl, hsz⟩ := okWide_struct Try.underlying24 hv
  obtain ⟨fuel, hf⟩ := h
  have hce : (Value.agg cs).cells = cs := rfl
  rw [hce] at hf
  obtain ⟨y0, y1, y2, n, hx, hlen, h0, h1, h2⟩ := trod_struct3 Try.underlying24 hf
  have hc3 : Try.prog.cellsOf 24 = 3 := by kernel_rfl
  rw [hc3] at hsz
  obtain ⟨v0, v1, v2, rfl⟩ : ∃ v0 v1 v2, cs = #[v0, v1, v2] := by
    obtain ⟨l⟩ := cs
    match l, hsz with
    | [a, b, c], _ => exact ⟨a, b, c, rfl⟩
  have k0 : Try.prog.cellsOf 3 = 1 := by kernel_rfl
  have k2 : Try.prog.cellsOf 22 = 1 := by kernel_rfl
  simp only [k0, k2, List.drop_zero, List.drop_succ_cons, List.take_succ_cons, List.take_zero] at h0 h1 h2
  simp only [Prod.mk.injEq] at hx
  obtain ⟨_, hp⟩ := hx
  obtain ⟨r, hr, _, wr⟩ := DataW.trod_int Try.underlying3 h0
  obtain ⟨c, hc, _, wc⟩ := DataW.trod_int Try.underlying3 h1
  have h2' := h2
  obtain ⟨a0, len, cap, l, hs, hH, _⟩ := open_hand h2 (fun y hy => hlt y (by rw [hp]; simp [hy]))
  simp only [List.cons.injEq, and_true] at hr hc hs
  subst hr; subst hc; subst hs
  have hz := hand_none h2'
  exact ⟨r, c, a0, len, cap, l, rfl, hH, hz, wfi wr, wfi wc⟩
end
end Go.Proofs.Ytnaeekjocaecmaa

/- What is handed to a law of layer 7: bytes, numbers, texts, matrices. -/
import Derived.Test.YteanbflbclmeeaaMCall
import Derived.Test.YteanbflbclmeeaaRows
import Derived.OpenShut
import Derived.SizedLaws
import Derived.SliceStrings
import Derived.Deep.Strs
import Derived.Carry
namespace Go.Proofs.Yteanbflbclmeeaa
open Go.ChangeShapes Go.WideShapes Go.ChangeAt Go.RowKit Go.Deep

theorem mlaidOut : laidOutB Try.prog = true := by kernel_rfl
section
variable {H : Type} {enc : TypeId × Value → H} {W : World}
theorem wfb {n : Int} (h : (Lit.int .u8 n).wf = true) : ((UInt8.ofNat n.toNat).toNat : Int) = n := by
  have h2 : 0 ≤ n ∧ n ≤ 255 := by simpa [Lit.wf, IntKind.min, IntKind.max, IntKind.bits, IntKind.signed] using h
  rw [UInt8.toNat_ofNat']; omega
theorem wfi {n : Int} (h : (Lit.int .i64 n).wf = true) : -9223372036854775808 ≤ n ∧ n ≤ 9223372036854775807 := by
  simpa [Lit.wf, IntKind.min, IntKind.max, IntKind.bits, IntKind.signed] using h
/-- Bytes. -/
theorem open_hand {fuel : Nat} {cs : List Value} {x : DataW H × List MemPlace} (h : DataW.trod enc Try.prog W 0 (fun _ => true) true fuel 50 cs = some x) (hlt : ∀ y ∈ x.2, y.block < W.heap.size) :
    ∃ a0 len cap l, cs = [.slice a0 len cap] ∧ Hand a0 len cap l W ∧ (x.1 = .nil ∧ len = 0 ∨ ∃ e sp, x.1 = .slice e sp ∧ e.length = len) := by
  rcases open_ints Try.underlying50 Try.underlying5 (by kernel_rfl) h with ⟨hcs, hx⟩ | ⟨a, len, cap, zs, hcs, _, hl, hm, hz, hx, hc, hw⟩
  · exact ⟨none, 0, 0, [], hcs, ⟨rfl, Nat.le_refl _, fun h => by omega⟩, .inl ⟨by rw [hx], rfl⟩⟩
  · simp only [if_true] at hz
    refine ⟨some a, len, cap, (zs.take len).map fun z => UInt8.ofNat z.toNat, hcs, ⟨by simp; omega, hl, fun h0 => ?_⟩, .inr ⟨_, _, by rw [hx], by simp [lits]; omega⟩⟩
    obtain ⟨b, o, spot⟩ := a
    have hspot : spot = none := by simpa [Addr.add] using World.cell?_spot (hc 0 (by omega))
    subst hspot
    refine ⟨b, o, rfl, ?_, fun j v hv => ?_⟩
    · have := hlt (.cell b o) (by rw [hx]; exact MemPlace.mem_row.2 ⟨0, by omega, by simp⟩)
      exact this
    · have hj : j < len := by have := (List.getElem?_eq_some_iff.1 hv).1; simp at this; omega
      have hjz : j < zs.length := by omega
      rw [List.getElem?_map, List.getElem?_map, List.getElem?_take, if_pos hj, List.getElem?_eq_getElem hjz] at hv
      simp only [Option.map_some, Option.some.injEq] at hv
      rw [← hv]
      have h1 := hc j hjz
      rw [← add_plain]
      rw [h1, List.getD, List.getElem?_eq_getElem hjz]
      show some (Value.int .u8 zs[j]) = some (u8v _)
      unfold u8v
      rw [wfb (hw _ (List.getElem_mem hjz))]
/-- Numbers. -/
theorem open_intsH {fuel : Nat} {cs : List Value} {x : DataW H × List MemPlace} (h : DataW.trod enc Try.prog W 0 (fun _ => true) true fuel 38 cs = some x) (hlt : ∀ y ∈ x.2, y.block < W.heap.size) :
    ∃ (a0 : Option Addr) (len cap : Nat) (f : Nat → Int), cs = [.slice a0 len cap] ∧ len ≤ cap ∧ (0 < len → ∃ b o, a0 = some ⟨b, o, none⟩ ∧ b < W.heap.size ∧ Ints b o len f W) ∧ (∀ j, -9223372036854775808 ≤ f j ∧ f j ≤ 9223372036854775807) ∧ (x.1 = .nil ∧ len = 0 ∨ ∃ e sp, x.1 = .slice e sp ∧ e.length = len) := by
  rcases open_ints Try.underlying38 Try.underlying3 (by kernel_rfl) h with ⟨hcs, hx⟩ | ⟨a, len, cap, zs, hcs, _, hl, hm, hz, hx, hc, hw⟩
  · exact ⟨none, 0, 0, fun _ => 0, hcs, Nat.le_refl _, fun h => by omega, fun _ => (⟨by decide, by decide⟩ : (-9223372036854775808 : Int) ≤ 0 ∧ (0 : Int) ≤ 9223372036854775807), .inl ⟨by rw [hx], rfl⟩⟩
  · simp only [if_true] at hz
    refine ⟨some a, len, cap, fun j => zs.getD j 0, hcs, hl, fun h0 => ?_, fun j => ?_, .inr ⟨_, _, by rw [hx], by simp [lits]; omega⟩⟩
    · obtain ⟨b, o, spot⟩ := a
      have hspot : spot = none := by simpa [Addr.add] using World.cell?_spot (hc 0 (by omega))
      subst hspot
      refine ⟨b, o, rfl, ?_, fun j hj => ?_⟩
      · have := hlt (.cell b o) (by rw [hx]; exact MemPlace.mem_row.2 ⟨0, by omega, by simp⟩)
        exact this
      · rw [← add_plain]; exact hc j (by omega)
    · show -9223372036854775808 ≤ zs.getD j 0 ∧ zs.getD j 0 ≤ 9223372036854775807
      by_cases hj : j < zs.length
      · rw [List.getD, List.getElem?_eq_getElem hj]; exact wfi (hw _ (List.getElem_mem hj))
      · rw [List.getD, List.getElem?_eq_none (by omega)]; exact ⟨by decide, by decide⟩
/-- Texts. -/
theorem open_texts {fuel : Nat} {cs : List Value} {x : DataW H × List MemPlace} (h : DataW.trod enc Try.prog W 0 (fun _ => true) true fuel 31 cs = some x) (hlt : ∀ y ∈ x.2, y.block < W.heap.size) :
    ∃ (a0 : Option Addr) (len cap : Nat) (f : Nat → ByteArray), cs = [.slice a0 len cap] ∧ len ≤ cap ∧ (0 < len → ∃ b o, a0 = some ⟨b, o, none⟩ ∧ b < W.heap.size ∧ Texts b o len f W) ∧ (x.1 = .nil ∧ len = 0 ∨ ∃ ss sp, x.1 = .slice (strs ss) sp ∧ ss.length = len ∧ ∀ j, j < len → f j = ss.getD j ByteArray.empty) := by
  rcases open_strings Try.underlying31 Try.underlying9 (by kernel_rfl) h with ⟨hcs, hx⟩ | ⟨a, len, cap, ss, hcs, _, hl, hm, hz, hx, hc, hw⟩
  · exact ⟨none, 0, 0, fun _ => .empty, hcs, Nat.le_refl _, fun h => by omega, .inl ⟨by rw [hx], rfl⟩⟩
  · simp only [if_true] at hz
    refine ⟨some a, len, cap, fun j => ss.getD j ByteArray.empty, hcs, hl, fun h0 => ?_, .inr ⟨ss.take len, _, by rw [hx], by rw [List.length_take]; omega, fun j hj => by simp [List.getD, hj]⟩⟩
    obtain ⟨b, o, spot⟩ := a
    have hspot : spot = none := by simpa [Addr.add] using World.cell?_spot (hc 0 (by omega))
    subst hspot
    refine ⟨b, o, rfl, ?_, fun j hj => ?_⟩
    · have := hlt (.cell b o) (by rw [hx]; exact MemPlace.mem_row.2 ⟨0, by omega, by simp⟩)
      exact this
    · rw [← add_plain]; exact hc j (by omega)
set_option maxRecDepth 100000 in
theorem open_matrix {base : Nat} {v : Value} {d : DataW H} {p : List MemPlace} (hv : Value.okWide Try.prog W .any base 77 v) (h : DataW.Trod enc Try.prog W 0 (fun _ => true) true 77 v d p) (hlt : ∀ y ∈ p, y.block < W.heap.size) :
    ∃ (r c : Int) (a0 : Option Addr) (len cap : Nat) (l : List UInt8), v = .agg #[.int .i64 r, .int .i64 c, .slice a0 len cap] ∧ Hand a0 len cap l W ∧ (-9223372036854775808 ≤ r ∧ r ≤ 9223372036854775807) ∧ (-9223372036854775808 ≤ c ∧ c ≤ 9223372036854775807) := by
  obtain ⟨cs, rfl, hsz⟩ := okWide_struct Try.underlying77 hv
  obtain ⟨fuel, hf⟩ := h
  have hce : (Value.agg cs).cells = cs := rfl
  rw [hce] at hf
  obtain ⟨y0, y1, y2, n, hx, hlen, h0, h1, h2⟩ := trod_struct3 Try.underlying77 hf
  have hc3 : Try.prog.cellsOf 77 = 3 := by kernel_rfl
  rw [hc3] at hsz
  obtain ⟨v0, v1, v2, rfl⟩ : ∃ v0 v1 v2, cs = #[v0, v1, v2] := by
    obtain ⟨l⟩ := cs
    match l, hsz with
    | [a, b, c], _ => exact ⟨a, b, c, rfl⟩
  have k0 : Try.prog.cellsOf 3 = 1 := by kernel_rfl
  have k2 : Try.prog.cellsOf 50 = 1 := by kernel_rfl
  simp only [k0, k2, List.drop_zero, List.drop_succ_cons, List.take_succ_cons, List.take_zero] at h0 h1 h2
  simp only [Prod.mk.injEq] at hx
  obtain ⟨_, hp⟩ := hx
  obtain ⟨r, hr, _, wr⟩ := DataW.trod_int Try.underlying3 h0
  obtain ⟨c, hc, _, wc⟩ := DataW.trod_int Try.underlying3 h1
  obtain ⟨a0, len, cap, l, hs, hH, _⟩ := open_hand h2 (fun y hy => hlt y (by rw [hp]; simp [hy]))
  simp only [List.cons.injEq, and_true] at hr hc hs
  subst hr; subst hc; subst hs
  exact ⟨r, c, a0, len, cap, l, rfl, hH, wfi wr, wfi wc⟩
end
end Go.Proofs.Yteanbflbclmeeaa

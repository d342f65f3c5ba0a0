/- The last steps of the statement ShardOpens's walk, and what is handed in: numbers. -/
import Derived.Test.YtdimkgidaioolaaHOpensW
import Derived.Test.YtdimkgidaioolaaRows
import Derived.WalkKit
import Derived.ProofKit
import Derived.OpenShut
import Derived.SizedLaws
import Derived.SliceStrings
import Derived.Deep.Strs
import Derived.Carry
namespace Go.Proofs.Ytdimkgidaioolaa
open Go.ChangeShapes Go.WideShapes Go.ChangeAt Go.RowKit Go.Deep
def Ints (b o len : Nat) (f : Nat → Int) (w : World) : Prop := ∀ j, j < len → w.cell? ⟨b, o + j, none⟩ = some (.int .i64 (f j))
theorem Opens_walk (nm raw t : ByteArray) (a0 : Option Addr) (len cap : Nat) (f : Nat → Int) (hf : ∀ j, -9223372036854775808 ≤ f j ∧ f j ≤ 9223372036854775807) (hlen : len ≤ 140737488355328) (w : World) (ht : 0 < len → ∃ b o, a0 = some ⟨b, o, none⟩ ∧ b < w.heap.size ∧ Ints b o len f w) :
    Calls Try.prog 4 #[.string nm, .string raw, .string t, .slice a0 len cap] w fun e w' => e = .returned (.bool true) ∧ Below w.heap.size w w' := by
  obtain ⟨nl, rfl⟩ : ∃ nl, nm = bs nl := ⟨_, (bs_self nm).symm⟩
  obtain ⟨rl, rfl⟩ : ∃ rl, raw = bs rl := ⟨_, (bs_self raw).symm⟩
  obtain ⟨tl, rfl⟩ : ∃ tl, t = bs tl := ⟨_, (bs_self t).symm⟩
  rcases seal_both nl tl with ⟨h, hn, htl⟩ | h
  · have hs := Shd.length_seal nl tl
    have hs2 := Shd.size_le htl
    exact Opens_ok nl rl tl (Shd.sld nl tl) h (by rw [hs]; unfold Shd.size; omega) (by omega) a0 len cap f hf hlen w ht
  · exact Opens_bad nl rl tl h a0 len cap w
theorem mlaidOut : laidOutB Try.prog = true := by kernel_rfl
section
variable {H : Type} {enc : TypeId × Value → H} {W : World}
theorem wfi {n : Int} (h : (Lit.int .i64 n).wf = true) : -9223372036854775808 ≤ n ∧ n ≤ 9223372036854775807 := by
  simpa [Lit.wf, IntKind.min, IntKind.max, IntKind.bits, IntKind.signed] using h
theorem open_intsH {fuel : Nat} {cs : List Value} {x : DataW H × List MemPlace} (h : DataW.trod enc Try.prog W 0 (fun _ => true) true fuel 32 cs = some x) (hlt : ∀ y ∈ x.2, y.block < W.heap.size) :
    ∃ (a0 : Option Addr) (len cap : Nat) (f : Nat → Int), cs = [.slice a0 len cap] ∧ len ≤ cap ∧ (0 < len → ∃ b o, a0 = some ⟨b, o, none⟩ ∧ b < W.heap.size ∧ Ints b o len f W) ∧ (∀ j, -9223372036854775808 ≤ f j ∧ f j ≤ 9223372036854775807) ∧ (x.1 = .nil ∧ len = 0 ∨ ∃ e sp, x.1 = .slice e sp ∧ e.length = len) := by
  rcases open_ints Try.underlying32 Try.underlying3 (by kernel_rfl) h with ⟨hcs, hx⟩ | ⟨a, len, cap, zs, hcs, _, hl, hm, hz, hx, hc, hw⟩
  · exact ⟨none, 0, 0, fun _ => 0, hcs, Nat.le_refl _, fun h => by omega, fun _ => (⟨by decide, by decide⟩ : (-9223372036854775808 : Int) ≤ 0 ∧ (0 : Int) ≤ 9223372036854775807), .inl ⟨by rw [hx], rfl⟩⟩
  · simp only [if_true] at hz
    refine ⟨some a, len, cap, fun j => zs.getD j 0, hcs, hl, fun h0 => ?_, fun j => ?_, .inr ⟨_, _, by rw [hx], by simp [lits]; omega⟩⟩
    · obtain ⟨b, o, spot⟩ := a
      have hspot : spot = none := by simpa [Addr.add] using World.cell?_spot (hc 0 (by omega))
      subst hspot
      refine ⟨b, o, rfl, ?_, fun j hj => ?_⟩
      · have := hlt (.cell b o) (by rw [hx]; exact MemPlace.mem_row.2 ⟨0, by omega, by simp⟩)
        exact this
      · rw [← add_plain]; exact hc j (by omega)
    · show -9223372036854775808 ≤ zs.getD j 0 ∧ zs.getD j 0 ≤ 9223372036854775807
      by_cases hj : j < zs.length
      · rw [List.getD, List.getElem?_eq_getElem hj]; exact wfi (hw _ (List.getElem_mem hj))
      · rw [List.getD, List.getElem?_eq_none (by omega)]; exact ⟨by decide, by decide⟩
end
end Go.Proofs.Ytdimkgidaioolaa

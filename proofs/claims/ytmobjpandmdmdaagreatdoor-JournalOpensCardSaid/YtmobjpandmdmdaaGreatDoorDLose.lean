/- The walks of what is lost. -/
import Derived.Test.YtmobjpandmdmdaaGreatDoorDSettle
namespace Go.Proofs.YtmobjpandmdmdaaGreatDoor
open Go.RowKit

/-- A list of yes and no as a slice has it. -/
structure Yes (kv : Value) (kb ko : Nat) (ks : List Nat) (keep : List Bool) (w : World) : Prop where
  form : ∃ a cap, kv = .slice a keep.length cap ∧ (keep.length = 0 ∨ a = some ⟨kb, ko, none⟩)
  ins : keep.length = 0 ∨ kb ∈ ks
  cells : ∀ i, i < keep.length → w.cell? ⟨kb, ko + i, none⟩ = some (.bool (keep.getD i false))
  few : keep.length ≤ 9223372036854775807
theorem Yes.keep {kv : Value} {kb ko : Nat} {ks : List Nat} {keep : List Bool} {w w' : World} (h : Yes kv kb ko ks keep w) (hk : ∀ k ∈ ks, w'.heap[k]? = w.heap[k]?) : Yes kv kb ko ks keep w' :=
  ⟨h.form, h.ins, fun i hi => (World.cell?_of_block (w := w) (a := ⟨kb, ko + i, none⟩) (hk kb (by rcases h.ins with h0 | h0; omega; exact h0))).trans (h.cells i hi), h.few⟩
theorem clamp_neg {t : Int} (h : t < 0) : (0 : Int) = (Dk.clamp t : Nat) := by rw [Dk.clamp_eq]; omega
theorem clamp_mid {t : Int} (h0 : 0 ≤ t) (h : t ≤ 64) : t = (Dk.clamp t : Nat) := by rw [Dk.clamp_eq]; omega
theorem clamp_big {t : Int} (h : 64 < t) : (64 : Int) = (Dk.clamp t : Nat) := by rw [Dk.clamp_eq]; omega
end Go.Proofs.YtmobjpandmdmdaaGreatDoor

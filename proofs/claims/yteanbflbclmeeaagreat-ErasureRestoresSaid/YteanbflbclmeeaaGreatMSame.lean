/- The walks of a matrix that is made of parts, and of whether two are the same. -/
import Derived.Test.YteanbflbclmeeaaGreatMIs
namespace Go.Proofs.YteanbflbclmeeaaGreat
open Go.RowKit

theorem Tab.hand {g R C N : Nat} {M : Mat} {w : World} (h : Tab g M R C w) (hN : R * C = N) : Hand (some ⟨g, 0, none⟩) N N (flat M R C) w :=
  ⟨by rw [length_flat, hN], Nat.le_refl _, fun _ => ⟨g, 0, rfl, h.lt, h.src⟩⟩
theorem Hand.nil (w : World) (a0 : Option Addr) (cap : Nat) : Hand a0 0 cap [] w := ⟨rfl, Nat.zero_le _, fun h => by omega⟩
theorem int_self_ne (r : Int) : (r != r) = false := by simp
end Go.Proofs.YteanbflbclmeeaaGreat

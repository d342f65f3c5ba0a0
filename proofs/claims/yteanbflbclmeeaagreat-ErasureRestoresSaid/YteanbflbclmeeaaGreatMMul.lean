/- The walk of Mul. -/
import Derived.Test.YteanbflbclmeeaaGreatMUnder
import Derived.Deep.RegionHeld3
namespace Go.Proofs.YteanbflbclmeeaaGreat
open Go.RowKit

def mulTo (P : Mat) (i : Nat) : Mat := fun a b => if a < i then P a b else 0
theorem mulTo_zero (P : Mat) : mulTo P 0 = zeroM := by funext a b; unfold mulTo; rw [if_neg (by omega)]
theorem mulTo_step (P : Mat) (i : Nat) : setRow i (P i) (mulTo P i) = mulTo P (i + 1) := by
  funext a b
  unfold setRow mulTo
  by_cases h : a = i
  · subst h; rw [if_pos rfl, if_pos (by omega)]
  · rw [if_neg h]
    by_cases h2 : a < i
    · rw [if_pos h2, if_pos (by omega)]
    · rw [if_neg h2, if_neg (by omega)]
theorem mulTo_all (P : Mat) (r c : Nat) : Alike r c (mulTo P r) P := fun a b ha _ => by unfold mulTo; rw [if_pos ha]
theorem Strs.col {h n m : Nat} {X : Mat} {w : World} (H : Strs h n (fun i => txt (X i) m) n w) : Col h 0 n m X w := fun j hj => by rw [Nat.zero_add]; exact H.got hj hj
end Go.Proofs.YteanbflbclmeeaaGreat

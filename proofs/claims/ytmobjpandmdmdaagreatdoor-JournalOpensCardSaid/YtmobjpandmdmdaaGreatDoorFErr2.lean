/- errors.Is at no error. -/
import Derived.Test.YtmobjpandmdmdaaGreatDoorFErr
namespace Go.Proofs.YtmobjpandmdmdaaGreatDoor
open Go.RowKit Go.Extern.Stop Go.Stop Go.Extern
set_option maxRecDepth 100000 in
set_option maxHeartbeats 1000000 in
theorem errorsIs_nil (v : Value) (w : World) : Calls Tryz.prog 39 #[.nilIface, .iface 68 v] w fun e w' => e = .returned (.bool false) ∧ w = w' := by
  have hq : (binOp .eql 33 .nilIface (.iface 68 v)).run Tryz.prog w = .ok (.bool false) w := by kernel_rfl
  go_enter Tryz.func39, Tryz.ntmps39
  go_wp2
  go_ret
  exact ⟨rfl, rfl⟩
/-- An error of a number and a place is answered; nothing that was there is another. -/
def Refused (c a : Int) (mk : Value → Value) (w : World) (e : Ending) (w' : World) : Prop := ∃ g, w.heap.size ≤ g ∧ e = .returned (mk (.iface 82 (.pointer (some ⟨g, 0, none⟩)))) ∧ FaultAt g c a w' ∧ Below w.heap.size w w'
theorem fault_is (c a : Int) (w : World) : Calls Tryz.prog 86 #[.int .i64 c, .int .i64 a] w (Refused c a id w) := by
  refine (fault_any c a w).mono ?_
  rintro e w' ⟨rfl, h1, h2⟩
  exact ⟨_, Nat.le_refl _, rfl, h1, h2⟩
end Go.Proofs.YtmobjpandmdmdaaGreatDoor

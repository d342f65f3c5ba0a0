/- The walks of FrameSums and FrameAgain. -/
import Derived.Test.YtmobjpandmdmdaaGreatDoorFKnown
namespace Go.Proofs.YtmobjpandmdmdaaGreatDoor
open Go.RowKit

theorem cut_size (s : ByteArray) (n : Nat) : (bs (s.data.toList.take n)).size ≤ n := by rw [bs_size, List.length_take]; omega
end Go.Proofs.YtmobjpandmdmdaaGreatDoor

/- Whatever the two numbers and the script, JournalPlays answers true and leaves its arguments as they were: the statement JournalPlaysCardSaid, over package-level variables as the text of the program lays them. -/
import Derived.Test.YtbljhodnpddpiaaGreatDoorQJPlaysRow
import Derived.Test.YtbljhodnpddpiaaGreatDoorCards
import Derived.Test.YtbljhodnpddpiaaGreatDoorTie
import Derived.SevenTiedAt
namespace Go.Proofs.YtbljhodnpddpiaaGreatDoor.journalPlaysRow
open Go

/-- ████ THE TIED CARD ████ -/
theorem card : Rows.JournalPlaysCardSaid :=
  Claim7.holds_tied_plain_at .later [] [.handle] true (true, "6501ce0c93079c772f3b81b8e2b47f784f7065b8f187089569806bf274196612") true
    proved (fun _ h => by cases h) (by kernel_rfl) (fun _ h => by cases h) journalPlays_row_tie rfl ⟨rfl, rfl⟩ (by kernel_rfl) rfl
    (fun f fn hf hfn => by
      obtain rfl : f = 3 := Option.some.inj ((show Tryz.prog.funcNamed "storehouse/storehouselaw04.JournalPlays" = some 3 by kernel_rfl).symm.trans hf) |>.symm
      obtain rfl : fn = Tryz.f3 := (Option.some.inj (Tryz.func3.symm.trans hfn)).symm
      exact ⟨by kernel_rfl, fun j t ht => by
        rw [Tryz.params3] at ht
        have hm : t ∈ [3, 3, 22] := by simpa using Array.mem_of_getElem? ht
        have hall : ([3, 3, 22].all fun u => !Tryz.prog.wantsStandIn u) = true := by kernel_rfl
        exact (show Tryz.prog.wantsStandIn t = false by simpa using List.all_eq_true.1 hall t hm)⟩)
    (by kernel_rfl)
end Go.Proofs.YtbljhodnpddpiaaGreatDoor.journalPlaysRow

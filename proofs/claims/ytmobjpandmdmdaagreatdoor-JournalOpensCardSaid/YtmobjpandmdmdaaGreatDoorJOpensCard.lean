/- Whatever the two numbers, the places, the texts, the epochs and the numbers, JournalOpens answers true and leaves its arguments as they were; package-level variables start as the program's text lays them: the statement JournalOpensCardSaid, with no other condition. -/
import Derived.Test.YtmobjpandmdmdaaGreatDoorJOpensRow
import Derived.Test.YtmobjpandmdmdaaGreatDoorCards
import Derived.Test.YtmobjpandmdmdaaGreatDoorTie
import Derived.SevenTiedAt
namespace Go.Proofs.YtmobjpandmdmdaaGreatDoor.journalOpensRow
open Go

/-- ████ THE TIED CARD ████ -/
theorem card : Rows.JournalOpensCardSaid :=
  Claim7.holds_tied_plain_at .later [] [.handle] true (true, "7bebde7c6fd350733e7042863d42c0b6716b76fabce12a6f652cd177943a045d") true
    proved (fun _ h => by cases h) (by kernel_rfl) (fun _ h => by cases h) journalOpens_row_tie rfl ⟨rfl, rfl⟩ (by kernel_rfl) rfl
    (fun f fn hf hfn => by
      obtain rfl : f = 3 := Option.some.inj ((show Tryz.prog.funcNamed "storehouse/storehouselaw04.JournalOpens" = some 3 by kernel_rfl).symm.trans hf) |>.symm
      obtain rfl : fn = Tryz.f3 := (Option.some.inj (Tryz.func3.symm.trans hfn)).symm
      exact ⟨by kernel_rfl, fun j t ht => by
        rw [Tryz.params3] at ht
        have hm : t ∈ [3, 3, 22, 23, 22, 22] := by simpa using Array.mem_of_getElem? ht
        have hall : ([3, 3, 22, 23, 22, 22].all fun u => !Tryz.prog.wantsStandIn u) = true := by kernel_rfl
        exact (show Tryz.prog.wantsStandIn t = false by simpa using List.all_eq_true.1 hall t hm)⟩)
    (by kernel_rfl)
end Go.Proofs.YtmobjpandmdmdaaGreatDoor.journalOpensRow

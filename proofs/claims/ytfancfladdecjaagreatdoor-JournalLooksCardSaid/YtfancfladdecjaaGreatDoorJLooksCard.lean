/- Whatever the numbers, the text, the fuse, what is kept and what is torn, JournalLooks answers true (what stands in a payload is never taken for a record) and leaves its arguments as they were: the statement JournalLooksCardSaid, over package-level variables as the program's text lays them. -/
import Derived.Test.YtfancfladdecjaaGreatDoorJLooksRow
import Derived.Test.YtfancfladdecjaaGreatDoorCards
import Derived.Test.YtfancfladdecjaaGreatDoorTie
import Derived.SevenTiedAt
namespace Go.Proofs.YtfancfladdecjaaGreatDoor.journalLooksRow
open Go

/-- ████ THE TIED CARD ████ -/
theorem card : Rows.JournalLooksCardSaid :=
  Claim7.holds_tied_plain_at .later [] [.handle] true (true, "730d31abb447e6abe3b7834df48fa894d1f596fe262ab7782fe0d15631e984f7") true
    proved (fun _ h => by cases h) (by kernel_rfl) (fun _ h => by cases h) journalLooks_row_tie rfl ⟨rfl, rfl⟩ (by kernel_rfl) rfl
    (fun f fn hf hfn => by
      obtain rfl : f = 6 := Option.some.inj ((show Tryz.prog.funcNamed "storehouse/storehouselaw04.JournalLooks" = some 6 by kernel_rfl).symm.trans hf) |>.symm
      obtain rfl : fn = Tryz.f6 := (Option.some.inj (Tryz.func6.symm.trans hfn)).symm
      exact ⟨by kernel_rfl, fun j t ht => by
        rw [Tryz.params6] at ht
        have hm : t ∈ [3, 3, 9, 3, 46, 3] := by simpa using Array.mem_of_getElem? ht
        have hall : ([3, 3, 9, 3, 46, 3].all fun u => !Tryz.prog.wantsStandIn u) = true := by kernel_rfl
        exact (show Tryz.prog.wantsStandIn t = false by simpa using List.all_eq_true.1 hall t hm)⟩)
    (by kernel_rfl)
end Go.Proofs.YtfancfladdecjaaGreatDoor.journalLooksRow

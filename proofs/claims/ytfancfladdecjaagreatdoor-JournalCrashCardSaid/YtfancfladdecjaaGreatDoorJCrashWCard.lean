/- Whatever the texts, the last one, the fuse, what is kept and what is torn, JournalCrash answers true (a record that is appended when the power goes is there or is not, and all others are) and leaves its arguments as they were: the statement JournalCrashCardSaid, over package-level variables as the program's text lays them. -/
import Derived.Test.YtfancfladdecjaaGreatDoorJCrashWRow
import Derived.Test.YtfancfladdecjaaGreatDoorCards
import Derived.Test.YtfancfladdecjaaGreatDoorTie
import Derived.SevenTiedAt
namespace Go.Proofs.YtfancfladdecjaaGreatDoor.journalCrashRow
open Go

/-- ████ THE TIED CARD ████ -/
theorem card : Rows.JournalCrashCardSaid :=
  Claim7.holds_tied_plain_at .later [] [.handle] true (true, "730d31abb447e6abe3b7834df48fa894d1f596fe262ab7782fe0d15631e984f7") true
    proved (fun _ h => by cases h) (by kernel_rfl) (fun _ h => by cases h) journalCrash_row_tie rfl ⟨rfl, rfl⟩ (by kernel_rfl) rfl
    (fun f fn hf hfn => by
      obtain rfl : f = 5 := Option.some.inj ((show Tryz.prog.funcNamed "storehouse/storehouselaw04.JournalCrash" = some 5 by kernel_rfl).symm.trans hf) |>.symm
      obtain rfl : fn = Tryz.f5 := (Option.some.inj (Tryz.func5.symm.trans hfn)).symm
      exact ⟨by kernel_rfl, fun j t ht => by
        rw [Tryz.params5] at ht
        have hm : t ∈ [31, 9, 3, 46, 3] := by simpa using Array.mem_of_getElem? ht
        have hall : ([31, 9, 3, 46, 3].all fun u => !Tryz.prog.wantsStandIn u) = true := by kernel_rfl
        exact (show Tryz.prog.wantsStandIn t = false by simpa using List.all_eq_true.1 hall t hm)⟩)
    (by kernel_rfl)
end Go.Proofs.YtfancfladdecjaaGreatDoor.journalCrashRow

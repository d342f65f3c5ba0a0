/- Whatever the two lists of texts, JournalTwo answers true (two journals on one disk know nothing of one another) and leaves its arguments as they were; package-level variables start as the program's text lays them: the statement JournalTwoCardSaid, with no other condition. -/
import Derived.Test.YtafhkpmfcmlbfaaGreatDoorJTwoRow
import Derived.Test.YtafhkpmfcmlbfaaGreatDoorCards
import Derived.Test.YtafhkpmfcmlbfaaGreatDoorTie
import Derived.SevenTiedAt
namespace Go.Proofs.YtafhkpmfcmlbfaaGreatDoor.journalTwoRow
open Go

/-- ████ THE TIED CARD ████ -/
theorem card : Rows.JournalTwoCardSaid :=
  Claim7.holds_tied_plain_at .later [] [.handle] true (true, "3fe5db8c836fdcd6013bf7a4f37b6e32706168d63e00ae5cc75a4617a0afda20") true
    proved (fun _ h => by cases h) (by kernel_rfl) (fun _ h => by cases h) journalTwo_row_tie rfl ⟨rfl, rfl⟩ (by kernel_rfl) rfl
    (fun f fn hf hfn => by
      obtain rfl : f = 7 := Option.some.inj ((show Tryz.prog.funcNamed "storehouse/storehouselaw04.JournalTwo" = some 7 by kernel_rfl).symm.trans hf) |>.symm
      obtain rfl : fn = Tryz.f7 := (Option.some.inj (Tryz.func7.symm.trans hfn)).symm
      exact ⟨by kernel_rfl, fun j t ht => by
        rw [Tryz.params7] at ht
        have hm : t ∈ [31, 31] := by simpa using Array.mem_of_getElem? ht
        have hall : ([31, 31].all fun u => !Tryz.prog.wantsStandIn u) = true := by kernel_rfl
        exact (show Tryz.prog.wantsStandIn t = false by simpa using List.all_eq_true.1 hall t hm)⟩)
    (by kernel_rfl)
end Go.Proofs.YtafhkpmfcmlbfaaGreatDoor.journalTwoRow

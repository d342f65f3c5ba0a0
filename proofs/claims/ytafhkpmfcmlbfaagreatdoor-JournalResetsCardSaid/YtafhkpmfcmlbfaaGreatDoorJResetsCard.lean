/- Whatever the lists of texts, the fuse, what is kept and what is torn, JournalResets answers true (records laid anew when the power goes are those of before or the new ones) and leaves its arguments as they were; package-level variables start as the program's text lays them: the statement JournalResetsCardSaid, with no other condition. -/
import Derived.Test.YtafhkpmfcmlbfaaGreatDoorJResetsRow
import Derived.Test.YtafhkpmfcmlbfaaGreatDoorCards
import Derived.Test.YtafhkpmfcmlbfaaGreatDoorTie
import Derived.SevenTiedAt
namespace Go.Proofs.YtafhkpmfcmlbfaaGreatDoor.journalResetsRow
open Go

/-- ████ THE TIED CARD ████ -/
theorem card : Rows.JournalResetsCardSaid :=
  Claim7.holds_tied_plain_at .later [] [.handle] true (true, "3fe5db8c836fdcd6013bf7a4f37b6e32706168d63e00ae5cc75a4617a0afda20") true
    proved (fun _ h => by cases h) (by kernel_rfl) (fun _ h => by cases h) journalResets_row_tie rfl ⟨rfl, rfl⟩ (by kernel_rfl) rfl
    (fun f fn hf hfn => by
      obtain rfl : f = 6 := Option.some.inj ((show Tryz.prog.funcNamed "storehouse/storehouselaw04.JournalResets" = some 6 by kernel_rfl).symm.trans hf) |>.symm
      obtain rfl : fn = Tryz.f6 := (Option.some.inj (Tryz.func6.symm.trans hfn)).symm
      exact ⟨by kernel_rfl, fun j t ht => by
        rw [Tryz.params6] at ht
        have hm : t ∈ [31, 31, 3, 46, 3] := by simpa using Array.mem_of_getElem? ht
        have hall : ([31, 31, 3, 46, 3].all fun u => !Tryz.prog.wantsStandIn u) = true := by kernel_rfl
        exact (show Tryz.prog.wantsStandIn t = false by simpa using List.all_eq_true.1 hall t hm)⟩)
    (by kernel_rfl)
end Go.Proofs.YtafhkpmfcmlbfaaGreatDoor.journalResetsRow

/-
  DERIVED. GIVEN WITH THE SEED: THE CARDS: each row of YtfancfladdecjaaGreatDoorRows.lean that lists a variable, with what it lists TIED to the program's text (the seventh form; the later family's looks); each row that meets fmt, with fmt's text TOLD by the authors' own Lean function (tested against real Go, not proved from fmt's source: count such statements apart). THE CARD IS WHAT COUNTS. Prove the row's statement (the work); the ties are given (YtfancfladdecjaaGreatDoorTie.lean); close each card by the builder's one call (the guide's Derived/Test/ToyasCard.lean, 'card_holds'). Laid BY PROGRAM, IN A SANDBOX (cutbox-door.mjs). By AI agents, Wed Nov 11 2026. No macro, syntax, notation, axiom, sorry.
-/
import Derived.Test.YtfancfladdecjaaGreatDoorRows
import GoSem.ClaimSeven
namespace Go.Proofs.YtfancfladdecjaaGreatDoor
namespace Rows

/-- THE TIED CARD OF 'storehouselaw04.JournalPlays'. -/
def journalPlaysCard : Claim7 := { stood := { row := journalPlaysRow, standIns := [], harness := (true, "730d31abb447e6abe3b7834df48fa894d1f596fe262ab7782fe0d15631e984f7"), looks := true }, kinds := [], alts := [], laidByText := true, laidKinds := [.handle], laidTests := true, laidLooks := .later }
def JournalPlaysCardSaid : Prop := Claim7.holds Tryz.pinned (.plain (OpenSpec.ofChange journalPlaysSpec)) journalPlaysCard

/-- THE TIED CARD OF 'storehouselaw04.JournalOpens'. -/
def journalOpensCard : Claim7 := { stood := { row := journalOpensRow, standIns := [], harness := (true, "730d31abb447e6abe3b7834df48fa894d1f596fe262ab7782fe0d15631e984f7"), looks := true }, kinds := [], alts := [], laidByText := true, laidKinds := [.handle], laidTests := true, laidLooks := .later }
def JournalOpensCardSaid : Prop := Claim7.holds Tryz.pinned (.plain (OpenSpec.ofChange journalOpensSpec)) journalOpensCard

/-- THE TIED CARD OF 'storehouselaw04.JournalCrash'. -/
def journalCrashCard : Claim7 := { stood := { row := journalCrashRow, standIns := [], harness := (true, "730d31abb447e6abe3b7834df48fa894d1f596fe262ab7782fe0d15631e984f7"), looks := true }, kinds := [], alts := [], laidByText := true, laidKinds := [.handle], laidTests := true, laidLooks := .later }
def JournalCrashCardSaid : Prop := Claim7.holds Tryz.pinned (.plain (OpenSpec.ofChange journalCrashSpec)) journalCrashCard

/-- THE TIED CARD OF 'storehouselaw04.JournalLooks'. -/
def journalLooksCard : Claim7 := { stood := { row := journalLooksRow, standIns := [], harness := (true, "730d31abb447e6abe3b7834df48fa894d1f596fe262ab7782fe0d15631e984f7"), looks := true }, kinds := [], alts := [], laidByText := true, laidKinds := [.handle], laidTests := true, laidLooks := .later }
def JournalLooksCardSaid : Prop := Claim7.holds Tryz.pinned (.plain (OpenSpec.ofChange journalLooksSpec)) journalLooksCard

/-- THE SECOND FORM's CARD OF 'storehouselaw04.JournalPlays'. -/
def journalPlaysUptoCard : Claim7 := { stood := { row := journalPlaysUptoRow, standIns := [], harness := (true, "730d31abb447e6abe3b7834df48fa894d1f596fe262ab7782fe0d15631e984f7"), looks := true }, kinds := [], alts := [], laidByText := true, laidKinds := [.handle], laidTests := true, laidLooks := .later }
def JournalPlaysUptoCardSaid : Prop := Claim7.holds Tryz.pinned (.plain (OpenSpec.upto journalPlaysSpec)) journalPlaysUptoCard

/-- THE SECOND FORM's CARD OF 'storehouselaw04.JournalOpens'. -/
def journalOpensUptoCard : Claim7 := { stood := { row := journalOpensUptoRow, standIns := [], harness := (true, "730d31abb447e6abe3b7834df48fa894d1f596fe262ab7782fe0d15631e984f7"), looks := true }, kinds := [], alts := [], laidByText := true, laidKinds := [.handle], laidTests := true, laidLooks := .later }
def JournalOpensUptoCardSaid : Prop := Claim7.holds Tryz.pinned (.plain (OpenSpec.upto journalOpensSpec)) journalOpensUptoCard

/-- THE SECOND FORM's CARD OF 'storehouselaw04.JournalCrash'. -/
def journalCrashUptoCard : Claim7 := { stood := { row := journalCrashUptoRow, standIns := [], harness := (true, "730d31abb447e6abe3b7834df48fa894d1f596fe262ab7782fe0d15631e984f7"), looks := true }, kinds := [], alts := [], laidByText := true, laidKinds := [.handle], laidTests := true, laidLooks := .later }
def JournalCrashUptoCardSaid : Prop := Claim7.holds Tryz.pinned (.plain (OpenSpec.upto journalCrashSpec)) journalCrashUptoCard

/-- THE SECOND FORM's CARD OF 'storehouselaw04.JournalLooks'. -/
def journalLooksUptoCard : Claim7 := { stood := { row := journalLooksUptoRow, standIns := [], harness := (true, "730d31abb447e6abe3b7834df48fa894d1f596fe262ab7782fe0d15631e984f7"), looks := true }, kinds := [], alts := [], laidByText := true, laidKinds := [.handle], laidTests := true, laidLooks := .later }
def JournalLooksUptoCardSaid : Prop := Claim7.holds Tryz.pinned (.plain (OpenSpec.upto journalLooksSpec)) journalLooksUptoCard
end Rows
end Go.Proofs.YtfancfladdecjaaGreatDoor

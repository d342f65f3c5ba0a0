/-
  No cell of these rows narrows 'for every input' (looked for: loops, veiled, ifaces, maps, wideKeys, modest, calm, conditions, laid).
  DERIVED. THE GIVEN ROWS OF THIS SEAT. 5 by the template 'for every input the law returns true; each argument reads behind the call as it read before'; 0 by the template 'total and deterministic' (their statements: YtllboegemooeoaaTotals.lean).
  GIVEN WITH THE SEED: the statements are not yours to turn. If you find one false, say at which input.
  Laid BY PROGRAM, IN A SANDBOX (cutbox-rows.mjs): the forced cells as the released guide's own fill.sh prints them over the translation bc41e83aea567d0a… (all of the seat's roots in one cut). By AI agents, Wed Nov 11 2026. No macro, syntax, notation, axiom, sorry.
-/
import Derived.Test.YtllboegemooeoaaChecked
import GoSem.Claim
import GoSem.ClaimJoined
import GoSem.ClaimMapViews
import Derived.JoinedTies
import Derived.KernelRfl
namespace Go.Proofs.Ytllboegemooeoaa
/- THE CELL 'sum', in the pinned program and in every row, IS THE sha256 OF THE DUMP (.gsa) THAT YtllboegemooeoaaProg.lean LOADS. Nothing in Lean hashes anything: it is a label: what it is worth is what the hold of that sum in a sandbox is worth. -/
noncomputable def Try.pinned : Pinned := { name := "ytllboegemooeoaa", sum := "bc41e83aea567d0a89d8bca167df65aab9bf5ee6faf8e0f562b31851e6bd0ca4", checked := Try.checked }
namespace Rows
def none {H : Type} : Left H := { results := [], args := [] }

/-- 'storehouselaw12.MomentBack': WHATEVER THE INPUT: true; the input reads as it did. -/
def momentBackSpec : ChangeSpec := { name := "momentBack", fn := fun _ => fun
  | [d] => { results := [.lit (.bool true)], args := [d] }
  | _ => none }
def momentBackRow : OpenClaim := { program := "ytllboegemooeoaa", sum := "bc41e83aea567d0a89d8bca167df65aab9bf5ee6faf8e0f562b31851e6bd0ca4", func := "storehouse/storehouselaw12.MomentBack", spec := "momentBack", inPlace := ["internal/bytealg.IndexByteString"], unfollowed := true, recurses := true, apart := false }
def MomentBackSaid : Prop := momentBackRow.holds Try.pinned (OpenSpec.ofChange momentBackSpec)

/-- ITS FALSE NEIGHBOUR: 'it returns false'. Refute it at one input. -/
def momentBackWrong : ChangeSpec := { name := "momentBack", fn := fun _ => fun
  | [d] => { results := [.lit (.bool false)], args := [d] }
  | _ => none }
def MomentBackWrongFalsely : Prop := momentBackRow.holds Try.pinned (OpenSpec.ofChange momentBackWrong)

/-- 'storehouselaw12.MomentRises': WHATEVER THE INPUT: true; the input reads as it did. -/
def momentRisesSpec : ChangeSpec := { name := "momentRises", fn := fun _ => fun
  | [d1, d2] => { results := [.lit (.bool true)], args := [d1, d2] }
  | _ => none }
def momentRisesRow : OpenClaim := { program := "ytllboegemooeoaa", sum := "bc41e83aea567d0a89d8bca167df65aab9bf5ee6faf8e0f562b31851e6bd0ca4", func := "storehouse/storehouselaw12.MomentRises", spec := "momentRises", inPlace := ["internal/bytealg.IndexByteString"], unfollowed := true, recurses := true, apart := false }
def MomentRisesSaid : Prop := momentRisesRow.holds Try.pinned (OpenSpec.ofChange momentRisesSpec)

/-- ITS FALSE NEIGHBOUR: 'it returns false'. Refute it at one input. -/
def momentRisesWrong : ChangeSpec := { name := "momentRises", fn := fun _ => fun
  | [d1, d2] => { results := [.lit (.bool false)], args := [d1, d2] }
  | _ => none }
def MomentRisesWrongFalsely : Prop := momentRisesRow.holds Try.pinned (OpenSpec.ofChange momentRisesWrong)

/-- 'storehouselaw12.MomentTells': WHATEVER THE INPUT: true; the input reads as it did. -/
def momentTellsSpec : ChangeSpec := { name := "momentTells", fn := fun _ => fun
  | [d] => { results := [.lit (.bool true)], args := [d] }
  | _ => none }
def momentTellsRow : OpenClaim := { program := "ytllboegemooeoaa", sum := "bc41e83aea567d0a89d8bca167df65aab9bf5ee6faf8e0f562b31851e6bd0ca4", func := "storehouse/storehouselaw12.MomentTells", spec := "momentTells", inPlace := ["internal/bytealg.IndexByteString"], unfollowed := true, recurses := true, apart := false }
def MomentTellsSaid : Prop := momentTellsRow.holds Try.pinned (OpenSpec.ofChange momentTellsSpec)

/-- ITS FALSE NEIGHBOUR: 'it returns false'. Refute it at one input. -/
def momentTellsWrong : ChangeSpec := { name := "momentTells", fn := fun _ => fun
  | [d] => { results := [.lit (.bool false)], args := [d] }
  | _ => none }
def MomentTellsWrongFalsely : Prop := momentTellsRow.holds Try.pinned (OpenSpec.ofChange momentTellsWrong)

/-- 'storehouselaw12.MomentReads': WHATEVER THE INPUT: true; the input reads as it did. -/
def momentReadsSpec : ChangeSpec := { name := "momentReads", fn := fun _ => fun
  | [d] => { results := [.lit (.bool true)], args := [d] }
  | _ => none }
def momentReadsRow : OpenClaim := { program := "ytllboegemooeoaa", sum := "bc41e83aea567d0a89d8bca167df65aab9bf5ee6faf8e0f562b31851e6bd0ca4", func := "storehouse/storehouselaw12.MomentReads", spec := "momentReads", inPlace := ["internal/bytealg.IndexByteString"], unfollowed := true, recurses := true, apart := false }
def MomentReadsSaid : Prop := momentReadsRow.holds Try.pinned (OpenSpec.ofChange momentReadsSpec)

/-- ITS FALSE NEIGHBOUR: 'it returns false'. Refute it at one input. -/
def momentReadsWrong : ChangeSpec := { name := "momentReads", fn := fun _ => fun
  | [d] => { results := [.lit (.bool false)], args := [d] }
  | _ => none }
def MomentReadsWrongFalsely : Prop := momentReadsRow.holds Try.pinned (OpenSpec.ofChange momentReadsWrong)

/-- 'storehouselaw12.MomentDays': WHATEVER THE INPUT: true; the input reads as it did. -/
def momentDaysSpec : ChangeSpec := { name := "momentDays", fn := fun _ => fun
  | [d1, d2, d3] => { results := [.lit (.bool true)], args := [d1, d2, d3] }
  | _ => none }
def momentDaysRow : OpenClaim := { program := "ytllboegemooeoaa", sum := "bc41e83aea567d0a89d8bca167df65aab9bf5ee6faf8e0f562b31851e6bd0ca4", func := "storehouse/storehouselaw12.MomentDays", spec := "momentDays", inPlace := ["internal/bytealg.IndexByteString"], unfollowed := true, recurses := true, apart := false }
def MomentDaysSaid : Prop := momentDaysRow.holds Try.pinned (OpenSpec.ofChange momentDaysSpec)

/-- ITS FALSE NEIGHBOUR: 'it returns false'. Refute it at one input. -/
def momentDaysWrong : ChangeSpec := { name := "momentDays", fn := fun _ => fun
  | [d1, d2, d3] => { results := [.lit (.bool false)], args := [d1, d2, d3] }
  | _ => none }
def MomentDaysWrongFalsely : Prop := momentDaysRow.holds Try.pinned (OpenSpec.ofChange momentDaysWrong)

/- THE SECOND FORM. 'bulk': how many values and letters a reading holds, each counted each time it is reached (what is shared counts as often as it is met; a slice's spare places count too). A statement '..UptoSaid' is the law's where the arguments, and the package variables that the reading takes, are together of bulk at most 1048576: NARROWER than '..Said'. Prove '..Said' where nothing that the law and all that it calls make is longer than what came in: it says more and counts as full. Else prove '..UptoSaid'. A law counts once. -/
mutual
def uptoBulk {H : Type} : DataW H → Nat
  | .lit (.string bytes) => bytes.length + 1
  | .lit _ => 1
  | .nil => 1
  | .ptr d => uptoBulk d + 1
  | .slice elems spare => uptoBulkAll elems + uptoBulkAll spare + 1
  | .agg parts => uptoBulkAll parts + 1
  | .iface _ d => uptoBulk d + 1
  | .map entries => uptoBulkEntries entries + 1
  | .held _ => 1
def uptoBulkAll {H : Type} : List (DataW H) → Nat
  | [] => 0
  | d :: r => uptoBulk d + uptoBulkAll r
def uptoBulkEntries {H : Type} : List (Lit × DataW H) → Nat
  | [] => 0
  | x :: r => uptoBulkEntry x + uptoBulkEntries r
def uptoBulkEntry {H : Type} : Lit × DataW H → Nat
  | (.string bytes, d) => bytes.length + uptoBulk d + 1
  | (_, d) => uptoBulk d + 1
 end
def uptoSmall : (H : Type) → List (DataW H) → Bool := fun _ ds => decide (uptoBulkAll ds ≤ 1048576)
def OpenSpec.upto (s : _root_.Go.ChangeSpec) : _root_.Go.OpenSpec := { _root_.Go.OpenSpec.ofChange s with cond := some uptoSmall }

/-- 'storehouselaw12.MomentBack', WHERE WHAT IT READS IS OF BULK AT MOST 1048576: true; the input reads as it did. -/
def momentBackUptoRow : OpenClaim := { program := "ytllboegemooeoaa", sum := "bc41e83aea567d0a89d8bca167df65aab9bf5ee6faf8e0f562b31851e6bd0ca4", func := "storehouse/storehouselaw12.MomentBack", spec := "momentBack", inPlace := ["internal/bytealg.IndexByteString"], unfollowed := true, recurses := true, apart := false, narrowed := true }
def MomentBackUptoSaid : Prop := momentBackUptoRow.holds Try.pinned (OpenSpec.upto momentBackSpec)

/-- 'storehouselaw12.MomentRises', WHERE WHAT IT READS IS OF BULK AT MOST 1048576: true; the input reads as it did. -/
def momentRisesUptoRow : OpenClaim := { program := "ytllboegemooeoaa", sum := "bc41e83aea567d0a89d8bca167df65aab9bf5ee6faf8e0f562b31851e6bd0ca4", func := "storehouse/storehouselaw12.MomentRises", spec := "momentRises", inPlace := ["internal/bytealg.IndexByteString"], unfollowed := true, recurses := true, apart := false, narrowed := true }
def MomentRisesUptoSaid : Prop := momentRisesUptoRow.holds Try.pinned (OpenSpec.upto momentRisesSpec)

/-- 'storehouselaw12.MomentTells', WHERE WHAT IT READS IS OF BULK AT MOST 1048576: true; the input reads as it did. -/
def momentTellsUptoRow : OpenClaim := { program := "ytllboegemooeoaa", sum := "bc41e83aea567d0a89d8bca167df65aab9bf5ee6faf8e0f562b31851e6bd0ca4", func := "storehouse/storehouselaw12.MomentTells", spec := "momentTells", inPlace := ["internal/bytealg.IndexByteString"], unfollowed := true, recurses := true, apart := false, narrowed := true }
def MomentTellsUptoSaid : Prop := momentTellsUptoRow.holds Try.pinned (OpenSpec.upto momentTellsSpec)

/-- 'storehouselaw12.MomentReads', WHERE WHAT IT READS IS OF BULK AT MOST 1048576: true; the input reads as it did. -/
def momentReadsUptoRow : OpenClaim := { program := "ytllboegemooeoaa", sum := "bc41e83aea567d0a89d8bca167df65aab9bf5ee6faf8e0f562b31851e6bd0ca4", func := "storehouse/storehouselaw12.MomentReads", spec := "momentReads", inPlace := ["internal/bytealg.IndexByteString"], unfollowed := true, recurses := true, apart := false, narrowed := true }
def MomentReadsUptoSaid : Prop := momentReadsUptoRow.holds Try.pinned (OpenSpec.upto momentReadsSpec)

/-- 'storehouselaw12.MomentDays', WHERE WHAT IT READS IS OF BULK AT MOST 1048576: true; the input reads as it did. -/
def momentDaysUptoRow : OpenClaim := { program := "ytllboegemooeoaa", sum := "bc41e83aea567d0a89d8bca167df65aab9bf5ee6faf8e0f562b31851e6bd0ca4", func := "storehouse/storehouselaw12.MomentDays", spec := "momentDays", inPlace := ["internal/bytealg.IndexByteString"], unfollowed := true, recurses := true, apart := false, narrowed := true }
def MomentDaysUptoSaid : Prop := momentDaysUptoRow.holds Try.pinned (OpenSpec.upto momentDaysSpec)

end Rows
end Go.Proofs.Ytllboegemooeoaa

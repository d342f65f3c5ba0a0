/-
  No cell of these rows narrows 'for every input' (looked for: loops, veiled, ifaces, maps, wideKeys, modest, calm, conditions, laid).
  DERIVED. THE GIVEN ROWS OF THIS SEAT. 4 by the template 'for every input the law returns true; each argument reads behind the call as it read before'; 0 by the template 'total and deterministic' (their statements: YtdimkgidaioolaaTotals.lean).
  GIVEN WITH THE SEED: the statements are not yours to turn. If you find one false, say at which input.
  Laid BY PROGRAM, IN A SANDBOX (cutbox-rows.mjs): the forced cells as the released guide's own fill.sh prints them over the translation 576038f325d12445… (all of the seat's roots in one cut). By AI agents, Wed Nov 11 2026. No macro, syntax, notation, axiom, sorry.
-/
import Derived.Test.YtdimkgidaioolaaChecked
import GoSem.Claim
import GoSem.ClaimJoined
import GoSem.ClaimMapViews
import Derived.JoinedTies
import Derived.KernelRfl
namespace Go.Proofs.Ytdimkgidaioolaa
/- THE CELL 'sum', in the pinned program and in every row, IS THE sha256 OF THE DUMP (.gsa) THAT YtdimkgidaioolaaProg.lean LOADS. Nothing in Lean hashes anything: it is a label: what it is worth is what the hold of that sum in a sandbox is worth. -/
noncomputable def Try.pinned : Pinned := { name := "ytdimkgidaioolaa", sum := "576038f325d124452de3f596a986a94c09ce2ff4a1679d12bcf34e3d807378b6", checked := Try.checked }
namespace Rows
def none {H : Type} : Left H := { results := [], args := [] }

/-- 'storehouselaw09.ShardSeals': WHATEVER THE INPUT: true; the input reads as it did. -/
def shardSealsSpec : ChangeSpec := { name := "shardSeals", fn := fun _ => fun
  | [d1, d2, d3] => { results := [.lit (.bool true)], args := [d1, d2, d3] }
  | _ => none }
def shardSealsRow : OpenClaim := { program := "ytdimkgidaioolaa", sum := "576038f325d124452de3f596a986a94c09ce2ff4a1679d12bcf34e3d807378b6", func := "storehouse/storehouselaw09.ShardSeals", spec := "shardSeals", inPlace := ["internal/abi.NoEscape", "internal/bytealg.MakeNoZero", "internal/reflectlite.TypeOf"], unfollowed := true, recurses := true, apart := false }
def ShardSealsSaid : Prop := shardSealsRow.holds Try.pinned (OpenSpec.ofChange shardSealsSpec)

/-- ITS FALSE NEIGHBOUR: 'it returns false'. Refute it at one input. -/
def shardSealsWrong : ChangeSpec := { name := "shardSeals", fn := fun _ => fun
  | [d1, d2, d3] => { results := [.lit (.bool false)], args := [d1, d2, d3] }
  | _ => none }
def ShardSealsWrongFalsely : Prop := shardSealsRow.holds Try.pinned (OpenSpec.ofChange shardSealsWrong)

/-- 'storehouselaw09.ShardOpens': WHATEVER THE INPUT: true; the input reads as it did. -/
def shardOpensSpec : ChangeSpec := { name := "shardOpens", fn := fun _ => fun
  | [d1, d2, d3, d4] => { results := [.lit (.bool true)], args := [d1, d2, d3, d4] }
  | _ => none }
def shardOpensRow : OpenClaim := { program := "ytdimkgidaioolaa", sum := "576038f325d124452de3f596a986a94c09ce2ff4a1679d12bcf34e3d807378b6", func := "storehouse/storehouselaw09.ShardOpens", spec := "shardOpens", inPlace := ["internal/abi.NoEscape", "internal/bytealg.MakeNoZero", "internal/reflectlite.TypeOf"], unfollowed := true, recurses := true, apart := false }
def ShardOpensSaid : Prop := shardOpensRow.holds Try.pinned (OpenSpec.ofChange shardOpensSpec)

/-- ITS FALSE NEIGHBOUR: 'it returns false'. Refute it at one input. -/
def shardOpensWrong : ChangeSpec := { name := "shardOpens", fn := fun _ => fun
  | [d1, d2, d3, d4] => { results := [.lit (.bool false)], args := [d1, d2, d3, d4] }
  | _ => none }
def ShardOpensWrongFalsely : Prop := shardOpensRow.holds Try.pinned (OpenSpec.ofChange shardOpensWrong)

/-- 'storehouselaw09.ShardBack': WHATEVER THE INPUT: true; the input reads as it did. -/
def shardBackSpec : ChangeSpec := { name := "shardBack", fn := fun _ => fun
  | [d1, d2] => { results := [.lit (.bool true)], args := [d1, d2] }
  | _ => none }
def shardBackRow : OpenClaim := { program := "ytdimkgidaioolaa", sum := "576038f325d124452de3f596a986a94c09ce2ff4a1679d12bcf34e3d807378b6", func := "storehouse/storehouselaw09.ShardBack", spec := "shardBack", inPlace := ["internal/abi.NoEscape", "internal/bytealg.MakeNoZero", "internal/reflectlite.TypeOf"], unfollowed := true, recurses := true, apart := false }
def ShardBackSaid : Prop := shardBackRow.holds Try.pinned (OpenSpec.ofChange shardBackSpec)

/-- ITS FALSE NEIGHBOUR: 'it returns false'. Refute it at one input. -/
def shardBackWrong : ChangeSpec := { name := "shardBack", fn := fun _ => fun
  | [d1, d2] => { results := [.lit (.bool false)], args := [d1, d2] }
  | _ => none }
def ShardBackWrongFalsely : Prop := shardBackRow.holds Try.pinned (OpenSpec.ofChange shardBackWrong)

/-- 'storehouselaw09.ShardAgain': WHATEVER THE INPUT: true; the input reads as it did. -/
def shardAgainSpec : ChangeSpec := { name := "shardAgain", fn := fun _ => fun
  | [d1, d2] => { results := [.lit (.bool true)], args := [d1, d2] }
  | _ => none }
def shardAgainRow : OpenClaim := { program := "ytdimkgidaioolaa", sum := "576038f325d124452de3f596a986a94c09ce2ff4a1679d12bcf34e3d807378b6", func := "storehouse/storehouselaw09.ShardAgain", spec := "shardAgain", inPlace := ["internal/abi.NoEscape", "internal/bytealg.MakeNoZero", "internal/reflectlite.TypeOf"], unfollowed := true, recurses := true, apart := false }
def ShardAgainSaid : Prop := shardAgainRow.holds Try.pinned (OpenSpec.ofChange shardAgainSpec)

/-- ITS FALSE NEIGHBOUR: 'it returns false'. Refute it at one input. -/
def shardAgainWrong : ChangeSpec := { name := "shardAgain", fn := fun _ => fun
  | [d1, d2] => { results := [.lit (.bool false)], args := [d1, d2] }
  | _ => none }
def ShardAgainWrongFalsely : Prop := shardAgainRow.holds Try.pinned (OpenSpec.ofChange shardAgainWrong)

/- THE SECOND FORM. 'bulk': how many values and letters a reading holds, each counted each time it is reached (what is shared counts as often as it is met; a slice's spare places count too). A statement '..UptoSaid' is the law's where the arguments, and the package variables that the reading takes, are together of bulk at most 1048576: NARROWER than '..Said'. Prove '..Said' where nothing that the law and all that it calls make is longer than what came in: it says more and counts as full. Else prove '..UptoSaid'. A law counts once. -/
mutual
def uptoBulk {H : Type} : DataW H → Nat
  | .lit (.string bytes) => bytes.length + 1
  | .lit _ => 1
  | .nil => 1
  | .ptr d => uptoBulk d + 1
  | .slice elems spare => uptoBulkAll elems + uptoBulkAll spare + 1
  | .agg parts => uptoBulkAll parts + 1
  | .iface _ d => uptoBulk d + 1
  | .map entries => uptoBulkEntries entries + 1
  | .held _ => 1
def uptoBulkAll {H : Type} : List (DataW H) → Nat
  | [] => 0
  | d :: r => uptoBulk d + uptoBulkAll r
def uptoBulkEntries {H : Type} : List (Lit × DataW H) → Nat
  | [] => 0
  | x :: r => uptoBulkEntry x + uptoBulkEntries r
def uptoBulkEntry {H : Type} : Lit × DataW H → Nat
  | (.string bytes, d) => bytes.length + uptoBulk d + 1
  | (_, d) => uptoBulk d + 1
 end
def uptoSmall : (H : Type) → List (DataW H) → Bool := fun _ ds => decide (uptoBulkAll ds ≤ 1048576)
def OpenSpec.upto (s : _root_.Go.ChangeSpec) : _root_.Go.OpenSpec := { _root_.Go.OpenSpec.ofChange s with cond := some uptoSmall }

/-- 'storehouselaw09.ShardSeals', WHERE WHAT IT READS IS OF BULK AT MOST 1048576: true; the input reads as it did. -/
def shardSealsUptoRow : OpenClaim := { program := "ytdimkgidaioolaa", sum := "576038f325d124452de3f596a986a94c09ce2ff4a1679d12bcf34e3d807378b6", func := "storehouse/storehouselaw09.ShardSeals", spec := "shardSeals", inPlace := ["internal/abi.NoEscape", "internal/bytealg.MakeNoZero", "internal/reflectlite.TypeOf"], unfollowed := true, recurses := true, apart := false, narrowed := true }
def ShardSealsUptoSaid : Prop := shardSealsUptoRow.holds Try.pinned (OpenSpec.upto shardSealsSpec)

/-- 'storehouselaw09.ShardOpens', WHERE WHAT IT READS IS OF BULK AT MOST 1048576: true; the input reads as it did. -/
def shardOpensUptoRow : OpenClaim := { program := "ytdimkgidaioolaa", sum := "576038f325d124452de3f596a986a94c09ce2ff4a1679d12bcf34e3d807378b6", func := "storehouse/storehouselaw09.ShardOpens", spec := "shardOpens", inPlace := ["internal/abi.NoEscape", "internal/bytealg.MakeNoZero", "internal/reflectlite.TypeOf"], unfollowed := true, recurses := true, apart := false, narrowed := true }
def ShardOpensUptoSaid : Prop := shardOpensUptoRow.holds Try.pinned (OpenSpec.upto shardOpensSpec)

/-- 'storehouselaw09.ShardBack', WHERE WHAT IT READS IS OF BULK AT MOST 1048576: true; the input reads as it did. -/
def shardBackUptoRow : OpenClaim := { program := "ytdimkgidaioolaa", sum := "576038f325d124452de3f596a986a94c09ce2ff4a1679d12bcf34e3d807378b6", func := "storehouse/storehouselaw09.ShardBack", spec := "shardBack", inPlace := ["internal/abi.NoEscape", "internal/bytealg.MakeNoZero", "internal/reflectlite.TypeOf"], unfollowed := true, recurses := true, apart := false, narrowed := true }
def ShardBackUptoSaid : Prop := shardBackUptoRow.holds Try.pinned (OpenSpec.upto shardBackSpec)

/-- 'storehouselaw09.ShardAgain', WHERE WHAT IT READS IS OF BULK AT MOST 1048576: true; the input reads as it did. -/
def shardAgainUptoRow : OpenClaim := { program := "ytdimkgidaioolaa", sum := "576038f325d124452de3f596a986a94c09ce2ff4a1679d12bcf34e3d807378b6", func := "storehouse/storehouselaw09.ShardAgain", spec := "shardAgain", inPlace := ["internal/abi.NoEscape", "internal/bytealg.MakeNoZero", "internal/reflectlite.TypeOf"], unfollowed := true, recurses := true, apart := false, narrowed := true }
def ShardAgainUptoSaid : Prop := shardAgainUptoRow.holds Try.pinned (OpenSpec.upto shardAgainSpec)

end Rows
end Go.Proofs.Ytdimkgidaioolaa

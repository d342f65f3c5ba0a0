/-
  No cell of these rows narrows 'for every input' (looked for: loops, veiled, ifaces, maps, wideKeys, modest, calm, conditions, laid).
  DERIVED. THE GIVEN ROWS OF THIS SEAT. 7 by the template 'for every input the law returns true; each argument reads behind the call as it read before'; 0 by the template 'total and deterministic' (their statements: YtiodbkloecpdcaaTotals.lean).
  GIVEN WITH THE SEED: the statements are not yours to turn. If you find one false, say at which input.
  Laid BY PROGRAM, IN A SANDBOX (cutbox-rows.mjs): the forced cells as the released guide's own fill.sh prints them over the translation 1d279865369f0052… (all of the seat's roots in one cut). By AI agents, Wed Nov 11 2026. No macro, syntax, notation, axiom, sorry.
-/
import Derived.Test.YtiodbkloecpdcaaChecked
import GoSem.Claim
import GoSem.ClaimJoined
import GoSem.ClaimMapViews
import Derived.JoinedTies
import Derived.KernelRfl
namespace Go.Proofs.Ytiodbkloecpdcaa
/- THE CELL 'sum', in the pinned program and in every row, IS THE sha256 OF THE DUMP (.gsa) THAT YtiodbkloecpdcaaProg.lean LOADS. Nothing in Lean hashes anything: it is a label: what it is worth is what the hold of that sum in a sandbox is worth. -/
noncomputable def Try.pinned : Pinned := { name := "ytiodbkloecpdcaa", sum := "1d279865369f0052a1c0393843b571aa09fe0ed4ca013258dd9ec8efa9227315", checked := Try.checked }
namespace Rows
def none {H : Type} : Left H := { results := [], args := [] }

/-- 'storehouselaw13.UriBack': WHATEVER THE INPUT: true; the input reads as it did. -/
def uriBackSpec : ChangeSpec := { name := "uriBack", fn := fun _ => fun
  | [d1, d2, d3] => { results := [.lit (.bool true)], args := [d1, d2, d3] }
  | _ => none }
def uriBackRow : OpenClaim := { program := "ytiodbkloecpdcaa", sum := "1d279865369f0052a1c0393843b571aa09fe0ed4ca013258dd9ec8efa9227315", func := "storehouse/storehouselaw13.UriBack", spec := "uriBack", inPlace := ["internal/bytealg.IndexByteString", "internal/bytealg.CountString", "internal/bytealg.IndexString", "internal/bytealg.abigen_runtime_cmpstring", "internal/abi.NoEscape", "internal/bytealg.MakeNoZero"], unfollowed := true, recurses := true, named := ["internal/bytealg.MaxLen"], apart := false }
def UriBackSaid : Prop := uriBackRow.holds Try.pinned (OpenSpec.ofChange uriBackSpec)

/-- ITS FALSE NEIGHBOUR: 'it returns false'. Refute it at one input. -/
def uriBackWrong : ChangeSpec := { name := "uriBack", fn := fun _ => fun
  | [d1, d2, d3] => { results := [.lit (.bool false)], args := [d1, d2, d3] }
  | _ => none }
def UriBackWrongFalsely : Prop := uriBackRow.holds Try.pinned (OpenSpec.ofChange uriBackWrong)

/-- 'storehouselaw13.UriOrder': WHATEVER THE INPUT: true; the input reads as it did. -/
def uriOrderSpec : ChangeSpec := { name := "uriOrder", fn := fun _ => fun
  | [d1, d2] => { results := [.lit (.bool true)], args := [d1, d2] }
  | _ => none }
def uriOrderRow : OpenClaim := { program := "ytiodbkloecpdcaa", sum := "1d279865369f0052a1c0393843b571aa09fe0ed4ca013258dd9ec8efa9227315", func := "storehouse/storehouselaw13.UriOrder", spec := "uriOrder", inPlace := ["internal/bytealg.IndexByteString", "internal/bytealg.CountString", "internal/bytealg.IndexString", "internal/bytealg.abigen_runtime_cmpstring", "internal/abi.NoEscape", "internal/bytealg.MakeNoZero"], unfollowed := true, recurses := true, named := ["internal/bytealg.MaxLen"], apart := false }
def UriOrderSaid : Prop := uriOrderRow.holds Try.pinned (OpenSpec.ofChange uriOrderSpec)

/-- ITS FALSE NEIGHBOUR: 'it returns false'. Refute it at one input. -/
def uriOrderWrong : ChangeSpec := { name := "uriOrder", fn := fun _ => fun
  | [d1, d2] => { results := [.lit (.bool false)], args := [d1, d2] }
  | _ => none }
def UriOrderWrongFalsely : Prop := uriOrderRow.holds Try.pinned (OpenSpec.ofChange uriOrderWrong)

/-- 'storehouselaw13.UriBuckets': WHATEVER THE INPUT: true; the input reads as it did. -/
def uriBucketsSpec : ChangeSpec := { name := "uriBuckets", fn := fun _ => fun
  | [d] => { results := [.lit (.bool true)], args := [d] }
  | _ => none }
def uriBucketsRow : OpenClaim := { program := "ytiodbkloecpdcaa", sum := "1d279865369f0052a1c0393843b571aa09fe0ed4ca013258dd9ec8efa9227315", func := "storehouse/storehouselaw13.UriBuckets", spec := "uriBuckets", inPlace := ["internal/bytealg.IndexByteString", "internal/bytealg.CountString", "internal/bytealg.IndexString", "internal/bytealg.abigen_runtime_cmpstring", "internal/abi.NoEscape", "internal/bytealg.MakeNoZero"], unfollowed := true, recurses := true, named := ["internal/bytealg.MaxLen"], apart := false }
def UriBucketsSaid : Prop := uriBucketsRow.holds Try.pinned (OpenSpec.ofChange uriBucketsSpec)

/-- ITS FALSE NEIGHBOUR: 'it returns false'. Refute it at one input. -/
def uriBucketsWrong : ChangeSpec := { name := "uriBuckets", fn := fun _ => fun
  | [d] => { results := [.lit (.bool false)], args := [d] }
  | _ => none }
def UriBucketsWrongFalsely : Prop := uriBucketsRow.holds Try.pinned (OpenSpec.ofChange uriBucketsWrong)

/-- 'storehouselaw13.UriEscapes': WHATEVER THE INPUT: true; the input reads as it did. -/
def uriEscapesSpec : ChangeSpec := { name := "uriEscapes", fn := fun _ => fun
  | [d] => { results := [.lit (.bool true)], args := [d] }
  | _ => none }
def uriEscapesRow : OpenClaim := { program := "ytiodbkloecpdcaa", sum := "1d279865369f0052a1c0393843b571aa09fe0ed4ca013258dd9ec8efa9227315", func := "storehouse/storehouselaw13.UriEscapes", spec := "uriEscapes", inPlace := ["internal/bytealg.IndexByteString", "internal/bytealg.CountString", "internal/bytealg.IndexString", "internal/bytealg.abigen_runtime_cmpstring", "internal/abi.NoEscape", "internal/bytealg.MakeNoZero"], unfollowed := true, recurses := true, named := ["internal/bytealg.MaxLen"], apart := false }
def UriEscapesSaid : Prop := uriEscapesRow.holds Try.pinned (OpenSpec.ofChange uriEscapesSpec)

/-- ITS FALSE NEIGHBOUR: 'it returns false'. Refute it at one input. -/
def uriEscapesWrong : ChangeSpec := { name := "uriEscapes", fn := fun _ => fun
  | [d] => { results := [.lit (.bool false)], args := [d] }
  | _ => none }
def UriEscapesWrongFalsely : Prop := uriEscapesRow.holds Try.pinned (OpenSpec.ofChange uriEscapesWrong)

/-- 'storehouselaw13.UriTargets': WHATEVER THE INPUT: true; the input reads as it did. -/
def uriTargetsSpec : ChangeSpec := { name := "uriTargets", fn := fun _ => fun
  | [d] => { results := [.lit (.bool true)], args := [d] }
  | _ => none }
def uriTargetsRow : OpenClaim := { program := "ytiodbkloecpdcaa", sum := "1d279865369f0052a1c0393843b571aa09fe0ed4ca013258dd9ec8efa9227315", func := "storehouse/storehouselaw13.UriTargets", spec := "uriTargets", inPlace := ["internal/bytealg.IndexByteString", "internal/bytealg.CountString", "internal/bytealg.IndexString", "internal/bytealg.abigen_runtime_cmpstring", "internal/abi.NoEscape", "internal/bytealg.MakeNoZero"], unfollowed := true, recurses := true, named := ["internal/bytealg.MaxLen"], apart := false }
def UriTargetsSaid : Prop := uriTargetsRow.holds Try.pinned (OpenSpec.ofChange uriTargetsSpec)

/-- ITS FALSE NEIGHBOUR: 'it returns false'. Refute it at one input. -/
def uriTargetsWrong : ChangeSpec := { name := "uriTargets", fn := fun _ => fun
  | [d] => { results := [.lit (.bool false)], args := [d] }
  | _ => none }
def UriTargetsWrongFalsely : Prop := uriTargetsRow.holds Try.pinned (OpenSpec.ofChange uriTargetsWrong)

/-- 'storehouselaw13.UriCanons': WHATEVER THE INPUT: true; the input reads as it did. -/
def uriCanonsSpec : ChangeSpec := { name := "uriCanons", fn := fun _ => fun
  | [d] => { results := [.lit (.bool true)], args := [d] }
  | _ => none }
def uriCanonsRow : OpenClaim := { program := "ytiodbkloecpdcaa", sum := "1d279865369f0052a1c0393843b571aa09fe0ed4ca013258dd9ec8efa9227315", func := "storehouse/storehouselaw13.UriCanons", spec := "uriCanons", inPlace := ["internal/bytealg.IndexByteString", "internal/bytealg.CountString", "internal/bytealg.IndexString", "internal/bytealg.abigen_runtime_cmpstring", "internal/abi.NoEscape", "internal/bytealg.MakeNoZero"], unfollowed := true, recurses := true, named := ["internal/bytealg.MaxLen"], apart := false }
def UriCanonsSaid : Prop := uriCanonsRow.holds Try.pinned (OpenSpec.ofChange uriCanonsSpec)

/-- ITS FALSE NEIGHBOUR: 'it returns false'. Refute it at one input. -/
def uriCanonsWrong : ChangeSpec := { name := "uriCanons", fn := fun _ => fun
  | [d] => { results := [.lit (.bool false)], args := [d] }
  | _ => none }
def UriCanonsWrongFalsely : Prop := uriCanonsRow.holds Try.pinned (OpenSpec.ofChange uriCanonsWrong)

/-- 'storehouselaw13.UriNames': WHATEVER THE INPUT: true; the input reads as it did. -/
def uriNamesSpec : ChangeSpec := { name := "uriNames", fn := fun _ => fun
  | [d1, d2] => { results := [.lit (.bool true)], args := [d1, d2] }
  | _ => none }
def uriNamesRow : OpenClaim := { program := "ytiodbkloecpdcaa", sum := "1d279865369f0052a1c0393843b571aa09fe0ed4ca013258dd9ec8efa9227315", func := "storehouse/storehouselaw13.UriNames", spec := "uriNames", inPlace := ["internal/bytealg.IndexByteString", "internal/bytealg.CountString", "internal/bytealg.IndexString", "internal/bytealg.abigen_runtime_cmpstring", "internal/abi.NoEscape", "internal/bytealg.MakeNoZero"], unfollowed := true, recurses := true, named := ["internal/bytealg.MaxLen"], apart := false }
def UriNamesSaid : Prop := uriNamesRow.holds Try.pinned (OpenSpec.ofChange uriNamesSpec)

/-- ITS FALSE NEIGHBOUR: 'it returns false'. Refute it at one input. -/
def uriNamesWrong : ChangeSpec := { name := "uriNames", fn := fun _ => fun
  | [d1, d2] => { results := [.lit (.bool false)], args := [d1, d2] }
  | _ => none }
def UriNamesWrongFalsely : Prop := uriNamesRow.holds Try.pinned (OpenSpec.ofChange uriNamesWrong)

/- THE SECOND FORM. 'bulk': how many values and letters a reading holds, each counted each time it is reached (what is shared counts as often as it is met; a slice's spare places count too). A statement '..UptoSaid' is the law's where the arguments, and the package variables that the reading takes, are together of bulk at most 1048576: NARROWER than '..Said'. Prove '..Said' where nothing that the law and all that it calls make is longer than what came in: it says more and counts as full. Else prove '..UptoSaid'. A law counts once. -/
mutual
def uptoBulk {H : Type} : DataW H → Nat
  | .lit (.string bytes) => bytes.length + 1
  | .lit _ => 1
  | .nil => 1
  | .ptr d => uptoBulk d + 1
  | .slice elems spare => uptoBulkAll elems + uptoBulkAll spare + 1
  | .agg parts => uptoBulkAll parts + 1
  | .iface _ d => uptoBulk d + 1
  | .map entries => uptoBulkEntries entries + 1
  | .held _ => 1
def uptoBulkAll {H : Type} : List (DataW H) → Nat
  | [] => 0
  | d :: r => uptoBulk d + uptoBulkAll r
def uptoBulkEntries {H : Type} : List (Lit × DataW H) → Nat
  | [] => 0
  | x :: r => uptoBulkEntry x + uptoBulkEntries r
def uptoBulkEntry {H : Type} : Lit × DataW H → Nat
  | (.string bytes, d) => bytes.length + uptoBulk d + 1
  | (_, d) => uptoBulk d + 1
 end
def uptoSmall : (H : Type) → List (DataW H) → Bool := fun _ ds => decide (uptoBulkAll ds ≤ 1048576)
def OpenSpec.upto (s : _root_.Go.ChangeSpec) : _root_.Go.OpenSpec := { _root_.Go.OpenSpec.ofChange s with cond := some uptoSmall }

/-- 'storehouselaw13.UriBack', WHERE WHAT IT READS IS OF BULK AT MOST 1048576: true; the input reads as it did. -/
def uriBackUptoRow : OpenClaim := { program := "ytiodbkloecpdcaa", sum := "1d279865369f0052a1c0393843b571aa09fe0ed4ca013258dd9ec8efa9227315", func := "storehouse/storehouselaw13.UriBack", spec := "uriBack", inPlace := ["internal/bytealg.IndexByteString", "internal/bytealg.CountString", "internal/bytealg.IndexString", "internal/bytealg.abigen_runtime_cmpstring", "internal/abi.NoEscape", "internal/bytealg.MakeNoZero"], unfollowed := true, recurses := true, named := ["internal/bytealg.MaxLen"], apart := false, narrowed := true }
def UriBackUptoSaid : Prop := uriBackUptoRow.holds Try.pinned (OpenSpec.upto uriBackSpec)

/-- 'storehouselaw13.UriOrder', WHERE WHAT IT READS IS OF BULK AT MOST 1048576: true; the input reads as it did. -/
def uriOrderUptoRow : OpenClaim := { program := "ytiodbkloecpdcaa", sum := "1d279865369f0052a1c0393843b571aa09fe0ed4ca013258dd9ec8efa9227315", func := "storehouse/storehouselaw13.UriOrder", spec := "uriOrder", inPlace := ["internal/bytealg.IndexByteString", "internal/bytealg.CountString", "internal/bytealg.IndexString", "internal/bytealg.abigen_runtime_cmpstring", "internal/abi.NoEscape", "internal/bytealg.MakeNoZero"], unfollowed := true, recurses := true, named := ["internal/bytealg.MaxLen"], apart := false, narrowed := true }
def UriOrderUptoSaid : Prop := uriOrderUptoRow.holds Try.pinned (OpenSpec.upto uriOrderSpec)

/-- 'storehouselaw13.UriBuckets', WHERE WHAT IT READS IS OF BULK AT MOST 1048576: true; the input reads as it did. -/
def uriBucketsUptoRow : OpenClaim := { program := "ytiodbkloecpdcaa", sum := "1d279865369f0052a1c0393843b571aa09fe0ed4ca013258dd9ec8efa9227315", func := "storehouse/storehouselaw13.UriBuckets", spec := "uriBuckets", inPlace := ["internal/bytealg.IndexByteString", "internal/bytealg.CountString", "internal/bytealg.IndexString", "internal/bytealg.abigen_runtime_cmpstring", "internal/abi.NoEscape", "internal/bytealg.MakeNoZero"], unfollowed := true, recurses := true, named := ["internal/bytealg.MaxLen"], apart := false, narrowed := true }
def UriBucketsUptoSaid : Prop := uriBucketsUptoRow.holds Try.pinned (OpenSpec.upto uriBucketsSpec)

/-- 'storehouselaw13.UriEscapes', WHERE WHAT IT READS IS OF BULK AT MOST 1048576: true; the input reads as it did. -/
def uriEscapesUptoRow : OpenClaim := { program := "ytiodbkloecpdcaa", sum := "1d279865369f0052a1c0393843b571aa09fe0ed4ca013258dd9ec8efa9227315", func := "storehouse/storehouselaw13.UriEscapes", spec := "uriEscapes", inPlace := ["internal/bytealg.IndexByteString", "internal/bytealg.CountString", "internal/bytealg.IndexString", "internal/bytealg.abigen_runtime_cmpstring", "internal/abi.NoEscape", "internal/bytealg.MakeNoZero"], unfollowed := true, recurses := true, named := ["internal/bytealg.MaxLen"], apart := false, narrowed := true }
def UriEscapesUptoSaid : Prop := uriEscapesUptoRow.holds Try.pinned (OpenSpec.upto uriEscapesSpec)

/-- 'storehouselaw13.UriTargets', WHERE WHAT IT READS IS OF BULK AT MOST 1048576: true; the input reads as it did. -/
def uriTargetsUptoRow : OpenClaim := { program := "ytiodbkloecpdcaa", sum := "1d279865369f0052a1c0393843b571aa09fe0ed4ca013258dd9ec8efa9227315", func := "storehouse/storehouselaw13.UriTargets", spec := "uriTargets", inPlace := ["internal/bytealg.IndexByteString", "internal/bytealg.CountString", "internal/bytealg.IndexString", "internal/bytealg.abigen_runtime_cmpstring", "internal/abi.NoEscape", "internal/bytealg.MakeNoZero"], unfollowed := true, recurses := true, named := ["internal/bytealg.MaxLen"], apart := false, narrowed := true }
def UriTargetsUptoSaid : Prop := uriTargetsUptoRow.holds Try.pinned (OpenSpec.upto uriTargetsSpec)

/-- 'storehouselaw13.UriCanons', WHERE WHAT IT READS IS OF BULK AT MOST 1048576: true; the input reads as it did. -/
def uriCanonsUptoRow : OpenClaim := { program := "ytiodbkloecpdcaa", sum := "1d279865369f0052a1c0393843b571aa09fe0ed4ca013258dd9ec8efa9227315", func := "storehouse/storehouselaw13.UriCanons", spec := "uriCanons", inPlace := ["internal/bytealg.IndexByteString", "internal/bytealg.CountString", "internal/bytealg.IndexString", "internal/bytealg.abigen_runtime_cmpstring", "internal/abi.NoEscape", "internal/bytealg.MakeNoZero"], unfollowed := true, recurses := true, named := ["internal/bytealg.MaxLen"], apart := false, narrowed := true }
def UriCanonsUptoSaid : Prop := uriCanonsUptoRow.holds Try.pinned (OpenSpec.upto uriCanonsSpec)

/-- 'storehouselaw13.UriNames', WHERE WHAT IT READS IS OF BULK AT MOST 1048576: true; the input reads as it did. -/
def uriNamesUptoRow : OpenClaim := { program := "ytiodbkloecpdcaa", sum := "1d279865369f0052a1c0393843b571aa09fe0ed4ca013258dd9ec8efa9227315", func := "storehouse/storehouselaw13.UriNames", spec := "uriNames", inPlace := ["internal/bytealg.IndexByteString", "internal/bytealg.CountString", "internal/bytealg.IndexString", "internal/bytealg.abigen_runtime_cmpstring", "internal/abi.NoEscape", "internal/bytealg.MakeNoZero"], unfollowed := true, recurses := true, named := ["internal/bytealg.MaxLen"], apart := false, narrowed := true }
def UriNamesUptoSaid : Prop := uriNamesUptoRow.holds Try.pinned (OpenSpec.upto uriNamesSpec)

end Rows
end Go.Proofs.Ytiodbkloecpdcaa

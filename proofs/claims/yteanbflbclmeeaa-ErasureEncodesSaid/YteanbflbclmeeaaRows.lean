/-
  No cell of these rows narrows 'for every input' (looked for: loops, veiled, ifaces, maps, wideKeys, modest, calm, conditions, laid).
  DERIVED. THE GIVEN ROWS OF THIS SEAT. 5 by the template 'for every input the law returns true; each argument reads behind the call as it read before'; 0 by the template 'total and deterministic' (their statements: YteanbflbclmeeaaTotals.lean).
  GIVEN WITH THE SEED: the statements are not yours to turn. If you find one false, say at which input.
  Laid BY PROGRAM, IN A SANDBOX (cutbox-rows.mjs): the forced cells as the released guide's own fill.sh prints them over the translation 8a7f1d829fc1e93e… (all of the seat's roots in one cut). By AI agents, Wed Nov 11 2026. No macro, syntax, notation, axiom, sorry.
-/
import Derived.Test.YteanbflbclmeeaaChecked
import GoSem.Claim
import GoSem.ClaimJoined
import GoSem.ClaimMapViews
import Derived.JoinedTies
import Derived.KernelRfl
namespace Go.Proofs.Yteanbflbclmeeaa
/- THE CELL 'sum', in the pinned program and in every row, IS THE sha256 OF THE DUMP (.gsa) THAT YteanbflbclmeeaaProg.lean LOADS. Nothing in Lean hashes anything: it is a label: what it is worth is what the hold of that sum in a sandbox is worth. -/
noncomputable def Try.pinned : Pinned := { name := "yteanbflbclmeeaa", sum := "8a7f1d829fc1e93e76d1978389c550a2b619d99c89f51444b70a12af0b54c569", checked := Try.checked }
namespace Rows
def none {H : Type} : Left H := { results := [], args := [] }

/-- 'storehouselaw08.ErasureEncodes': WHATEVER THE INPUT: true; the input reads as it did. -/
def erasureEncodesSpec : ChangeSpec := { name := "erasureEncodes", fn := fun _ => fun
  | [d1, d2, d3, d4] => { results := [.lit (.bool true)], args := [d1, d2, d3, d4] }
  | _ => none }
def erasureEncodesRow : OpenClaim := { program := "yteanbflbclmeeaa", sum := "8a7f1d829fc1e93e76d1978389c550a2b619d99c89f51444b70a12af0b54c569", func := "storehouse/storehouselaw08.ErasureEncodes", spec := "erasureEncodes", inPlace := ["internal/abi.NoEscape", "internal/bytealg.MakeNoZero", "internal/reflectlite.TypeOf"], unfollowed := true, recurses := true, apart := false }
def ErasureEncodesSaid : Prop := erasureEncodesRow.holds Try.pinned (OpenSpec.ofChange erasureEncodesSpec)

/-- ITS FALSE NEIGHBOUR: 'it returns false'. Refute it at one input. -/
def erasureEncodesWrong : ChangeSpec := { name := "erasureEncodes", fn := fun _ => fun
  | [d1, d2, d3, d4] => { results := [.lit (.bool false)], args := [d1, d2, d3, d4] }
  | _ => none }
def ErasureEncodesWrongFalsely : Prop := erasureEncodesRow.holds Try.pinned (OpenSpec.ofChange erasureEncodesWrong)

/-- 'storehouselaw08.ErasureAny': WHATEVER THE INPUT: true; the input reads as it did. -/
def erasureAnySpec : ChangeSpec := { name := "erasureAny", fn := fun _ => fun
  | [d1, d2, d3, d4, d5] => { results := [.lit (.bool true)], args := [d1, d2, d3, d4, d5] }
  | _ => none }
def erasureAnyRow : OpenClaim := { program := "yteanbflbclmeeaa", sum := "8a7f1d829fc1e93e76d1978389c550a2b619d99c89f51444b70a12af0b54c569", func := "storehouse/storehouselaw08.ErasureAny", spec := "erasureAny", inPlace := ["internal/abi.NoEscape", "internal/bytealg.MakeNoZero", "internal/reflectlite.TypeOf"], unfollowed := true, recurses := true, apart := false }
def ErasureAnySaid : Prop := erasureAnyRow.holds Try.pinned (OpenSpec.ofChange erasureAnySpec)

/-- ITS FALSE NEIGHBOUR: 'it returns false'. Refute it at one input. -/
def erasureAnyWrong : ChangeSpec := { name := "erasureAny", fn := fun _ => fun
  | [d1, d2, d3, d4, d5] => { results := [.lit (.bool false)], args := [d1, d2, d3, d4, d5] }
  | _ => none }
def ErasureAnyWrongFalsely : Prop := erasureAnyRow.holds Try.pinned (OpenSpec.ofChange erasureAnyWrong)

/-- 'storehouselaw08.ErasureFew': WHATEVER THE INPUT: true; the input reads as it did. -/
def erasureFewSpec : ChangeSpec := { name := "erasureFew", fn := fun _ => fun
  | [d1, d2, d3, d4] => { results := [.lit (.bool true)], args := [d1, d2, d3, d4] }
  | _ => none }
def erasureFewRow : OpenClaim := { program := "yteanbflbclmeeaa", sum := "8a7f1d829fc1e93e76d1978389c550a2b619d99c89f51444b70a12af0b54c569", func := "storehouse/storehouselaw08.ErasureFew", spec := "erasureFew", inPlace := ["internal/abi.NoEscape", "internal/bytealg.MakeNoZero", "internal/reflectlite.TypeOf"], unfollowed := true, recurses := true, apart := false }
def ErasureFewSaid : Prop := erasureFewRow.holds Try.pinned (OpenSpec.ofChange erasureFewSpec)

/-- ITS FALSE NEIGHBOUR: 'it returns false'. Refute it at one input. -/
def erasureFewWrong : ChangeSpec := { name := "erasureFew", fn := fun _ => fun
  | [d1, d2, d3, d4] => { results := [.lit (.bool false)], args := [d1, d2, d3, d4] }
  | _ => none }
def ErasureFewWrongFalsely : Prop := erasureFewRow.holds Try.pinned (OpenSpec.ofChange erasureFewWrong)

/-- 'storehouselaw08.ErasureOne': WHATEVER THE INPUT: true; the input reads as it did. -/
def erasureOneSpec : ChangeSpec := { name := "erasureOne", fn := fun _ => fun
  | [d1, d2, d3, d4, d5, d6] => { results := [.lit (.bool true)], args := [d1, d2, d3, d4, d5, d6] }
  | _ => none }
def erasureOneRow : OpenClaim := { program := "yteanbflbclmeeaa", sum := "8a7f1d829fc1e93e76d1978389c550a2b619d99c89f51444b70a12af0b54c569", func := "storehouse/storehouselaw08.ErasureOne", spec := "erasureOne", inPlace := ["internal/abi.NoEscape", "internal/bytealg.MakeNoZero", "internal/reflectlite.TypeOf"], unfollowed := true, recurses := true, apart := false }
def ErasureOneSaid : Prop := erasureOneRow.holds Try.pinned (OpenSpec.ofChange erasureOneSpec)

/-- ITS FALSE NEIGHBOUR: 'it returns false'. Refute it at one input. -/
def erasureOneWrong : ChangeSpec := { name := "erasureOne", fn := fun _ => fun
  | [d1, d2, d3, d4, d5, d6] => { results := [.lit (.bool false)], args := [d1, d2, d3, d4, d5, d6] }
  | _ => none }
def ErasureOneWrongFalsely : Prop := erasureOneRow.holds Try.pinned (OpenSpec.ofChange erasureOneWrong)

/-- 'storehouselaw08.ErasureSums': WHATEVER THE INPUT: true; the input reads as it did. -/
def erasureSumsSpec : ChangeSpec := { name := "erasureSums", fn := fun _ => fun
  | [d1, d2, d3, d4] => { results := [.lit (.bool true)], args := [d1, d2, d3, d4] }
  | _ => none }
def erasureSumsRow : OpenClaim := { program := "yteanbflbclmeeaa", sum := "8a7f1d829fc1e93e76d1978389c550a2b619d99c89f51444b70a12af0b54c569", func := "storehouse/storehouselaw08.ErasureSums", spec := "erasureSums", inPlace := ["internal/abi.NoEscape", "internal/bytealg.MakeNoZero", "internal/reflectlite.TypeOf"], unfollowed := true, recurses := true, apart := false }
def ErasureSumsSaid : Prop := erasureSumsRow.holds Try.pinned (OpenSpec.ofChange erasureSumsSpec)

/-- ITS FALSE NEIGHBOUR: 'it returns false'. Refute it at one input. -/
def erasureSumsWrong : ChangeSpec := { name := "erasureSums", fn := fun _ => fun
  | [d1, d2, d3, d4] => { results := [.lit (.bool false)], args := [d1, d2, d3, d4] }
  | _ => none }
def ErasureSumsWrongFalsely : Prop := erasureSumsRow.holds Try.pinned (OpenSpec.ofChange erasureSumsWrong)

/- THE SECOND FORM. 'bulk': how many values and letters a reading holds, each counted each time it is reached (what is shared counts as often as it is met; a slice's spare places count too). A statement '..UptoSaid' is the law's where the arguments, and the package variables that the reading takes, are together of bulk at most 1048576: NARROWER than '..Said'. Prove '..Said' where nothing that the law and all that it calls make is longer than what came in: it says more and counts as full. Else prove '..UptoSaid'. A law counts once. -/
mutual
def uptoBulk {H : Type} : DataW H → Nat
  | .lit (.string bytes) => bytes.length + 1
  | .lit _ => 1
  | .nil => 1
  | .ptr d => uptoBulk d + 1
  | .slice elems spare => uptoBulkAll elems + uptoBulkAll spare + 1
  | .agg parts => uptoBulkAll parts + 1
  | .iface _ d => uptoBulk d + 1
  | .map entries => uptoBulkEntries entries + 1
  | .held _ => 1
def uptoBulkAll {H : Type} : List (DataW H) → Nat
  | [] => 0
  | d :: r => uptoBulk d + uptoBulkAll r
def uptoBulkEntries {H : Type} : List (Lit × DataW H) → Nat
  | [] => 0
  | x :: r => uptoBulkEntry x + uptoBulkEntries r
def uptoBulkEntry {H : Type} : Lit × DataW H → Nat
  | (.string bytes, d) => bytes.length + uptoBulk d + 1
  | (_, d) => uptoBulk d + 1
 end
def uptoSmall : (H : Type) → List (DataW H) → Bool := fun _ ds => decide (uptoBulkAll ds ≤ 1048576)
def OpenSpec.upto (s : _root_.Go.ChangeSpec) : _root_.Go.OpenSpec := { _root_.Go.OpenSpec.ofChange s with cond := some uptoSmall }

/-- 'storehouselaw08.ErasureEncodes', WHERE WHAT IT READS IS OF BULK AT MOST 1048576: true; the input reads as it did. -/
def erasureEncodesUptoRow : OpenClaim := { program := "yteanbflbclmeeaa", sum := "8a7f1d829fc1e93e76d1978389c550a2b619d99c89f51444b70a12af0b54c569", func := "storehouse/storehouselaw08.ErasureEncodes", spec := "erasureEncodes", inPlace := ["internal/abi.NoEscape", "internal/bytealg.MakeNoZero", "internal/reflectlite.TypeOf"], unfollowed := true, recurses := true, apart := false, narrowed := true }
def ErasureEncodesUptoSaid : Prop := erasureEncodesUptoRow.holds Try.pinned (OpenSpec.upto erasureEncodesSpec)

/-- 'storehouselaw08.ErasureAny', WHERE WHAT IT READS IS OF BULK AT MOST 1048576: true; the input reads as it did. -/
def erasureAnyUptoRow : OpenClaim := { program := "yteanbflbclmeeaa", sum := "8a7f1d829fc1e93e76d1978389c550a2b619d99c89f51444b70a12af0b54c569", func := "storehouse/storehouselaw08.ErasureAny", spec := "erasureAny", inPlace := ["internal/abi.NoEscape", "internal/bytealg.MakeNoZero", "internal/reflectlite.TypeOf"], unfollowed := true, recurses := true, apart := false, narrowed := true }
def ErasureAnyUptoSaid : Prop := erasureAnyUptoRow.holds Try.pinned (OpenSpec.upto erasureAnySpec)

/-- 'storehouselaw08.ErasureFew', WHERE WHAT IT READS IS OF BULK AT MOST 1048576: true; the input reads as it did. -/
def erasureFewUptoRow : OpenClaim := { program := "yteanbflbclmeeaa", sum := "8a7f1d829fc1e93e76d1978389c550a2b619d99c89f51444b70a12af0b54c569", func := "storehouse/storehouselaw08.ErasureFew", spec := "erasureFew", inPlace := ["internal/abi.NoEscape", "internal/bytealg.MakeNoZero", "internal/reflectlite.TypeOf"], unfollowed := true, recurses := true, apart := false, narrowed := true }
def ErasureFewUptoSaid : Prop := erasureFewUptoRow.holds Try.pinned (OpenSpec.upto erasureFewSpec)

/-- 'storehouselaw08.ErasureOne', WHERE WHAT IT READS IS OF BULK AT MOST 1048576: true; the input reads as it did. -/
def erasureOneUptoRow : OpenClaim := { program := "yteanbflbclmeeaa", sum := "8a7f1d829fc1e93e76d1978389c550a2b619d99c89f51444b70a12af0b54c569", func := "storehouse/storehouselaw08.ErasureOne", spec := "erasureOne", inPlace := ["internal/abi.NoEscape", "internal/bytealg.MakeNoZero", "internal/reflectlite.TypeOf"], unfollowed := true, recurses := true, apart := false, narrowed := true }
def ErasureOneUptoSaid : Prop := erasureOneUptoRow.holds Try.pinned (OpenSpec.upto erasureOneSpec)

/-- 'storehouselaw08.ErasureSums', WHERE WHAT IT READS IS OF BULK AT MOST 1048576: true; the input reads as it did. -/
def erasureSumsUptoRow : OpenClaim := { program := "yteanbflbclmeeaa", sum := "8a7f1d829fc1e93e76d1978389c550a2b619d99c89f51444b70a12af0b54c569", func := "storehouse/storehouselaw08.ErasureSums", spec := "erasureSums", inPlace := ["internal/abi.NoEscape", "internal/bytealg.MakeNoZero", "internal/reflectlite.TypeOf"], unfollowed := true, recurses := true, apart := false, narrowed := true }
def ErasureSumsUptoSaid : Prop := erasureSumsUptoRow.holds Try.pinned (OpenSpec.upto erasureSumsSpec)

end Rows
end Go.Proofs.Yteanbflbclmeeaa

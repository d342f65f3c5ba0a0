/- The chapter's examples of layer 9, reckoned. -/
import Derived.Test.YtdimkgidaioolaaHSpec
namespace Shd
set_option maxRecDepth 1000000
/-- The text of the example. -/
def z450 : List UInt8 := List.replicate 450 0
def exS : List UInt8 := sld [110] z450
def exT : List UInt8 := exS.set 317 (exS.getD 317 0 ^^^ 4)
def isErr (r : Except Nat (List UInt8)) (a : Nat) : Bool := match r with
  | .error b => b == a
  | .ok _ => false
theorem isErr_eq {r : Except Nat (List UInt8)} {a : Nat} (h : isErr r a = true) : r = .error a := by
  cases r with
  | error b => simp [isErr] at h; rw [h]
  | ok t => simp [isErr] at h
theorem ex_other : opn [109] exS = .error 0 := isErr_eq (by decide +kernel)
theorem ex_turned : opn [110] exT = .error 268 := isErr_eq (by decide +kernel)
end Shd

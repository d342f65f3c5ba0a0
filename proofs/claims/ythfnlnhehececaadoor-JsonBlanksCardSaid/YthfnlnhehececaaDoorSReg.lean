/- Regions that draw their order and whose callees make memory: every operation yields one value in all worlds of a class, and leaves the class whole. -/
import Derived.Test.YthfnlnhehececaaDoorDLaws
import Derived.Deep.QuietTactic
import Derived.BigQuiet
namespace Go.Proofs.YthfnlnhehececaaDoor
open Go Go.RowKit

/-- The worlds of a class. -/
structure Of (S : World → Prop) where
  w : World
  ok : S w
theorem wp_region_S {P : Program} {id : Nat} {Q : Exit → Act → World → Prop} {a : Act} {w : World} {l : List Oper} (S : World → Prop) (hm : P.follows .mixedOrders = true) (hB : Region.lexB .any l.toArray = true) (h0 : S w.drew)
    (h : wpQuiet P l.toArray (fun w' => ∃ u : Of S, w' = u.w) (fun a' => ∀ w', (∃ u : Of S, w' = u.w) → Q .normal a' w') l a) : (Code.region id l.toArray true).wp P Q a w :=
  wp_region_quiet (C := fun w' => ∃ u : Of S, w' = u.w) hm hB ⟨⟨w.drew, h0⟩, rfl⟩ (by simpa using h)
/-- A contract that leaves all older blocks alone, in a class that this keeps. -/
theorem quiet_S {P : Program} {S : World → Prop} {f : FuncId} {args : Array Value} {v : Value} (hS : ∀ w w', S w → Below w.heap.size w w' → S w') (h : ∀ w, S w → Calls P f args w fun e w' => e = .returned v ∧ Below w.heap.size w w') (u : Of S) :
    Calls P f args u.w fun e w' => e = .returned v ∧ ∃ u' : Of S, w' = u'.w :=
  (h u.w u.ok).mono fun _ w' ⟨he, hb⟩ => ⟨he, ⟨w', hS _ _ u.ok hb⟩, rfl⟩
end Go.Proofs.YthfnlnhehececaaDoor

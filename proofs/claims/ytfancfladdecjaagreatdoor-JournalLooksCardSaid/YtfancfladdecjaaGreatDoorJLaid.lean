/- What the condition of the journal's rows gives a walk; lists of texts and of yes and no, as a call was given them. -/
import Derived.Test.YtfancfladdecjaaGreatDoorRows
import Derived.Test.YtfancfladdecjaaGreatDoorJAnew
import Derived.Test.YtfancfladdecjaaGreatDoorJWrap
import Derived.Deep.Grids
import Derived.WalkKit
import Derived.ProofKit
import Derived.OpenShut
import Derived.SizedLaws
import Derived.ChangeSame
import Derived.ChangeVars
import Derived.JoinedOf
import Derived.RowKit
import Derived.RowKitTokens
import Derived.LaidLaws
import Derived.LaidHandle
import Derived.Stop.Joined
namespace Go.Proofs.YtfancfladdecjaaGreatDoor
open Go.ChangeShapes Go.WideShapes Go.ChangeAt Go.RowKit
open Go.ChangeMaps (open_string shut_string)

theorem lh_cellsString : Tryz.prog.cellsOf 9 = 1 := by kernel_rfl
theorem int_range {n : Int} (h : (Lit.int .i64 n).wf = true) : -9223372036854775808 ≤ n ∧ n ≤ 9223372036854775807 := by
  have h1 : IntKind.i64.min = -9223372036854775808 := by decide
  have h2 : IntKind.i64.max = 9223372036854775807 := by decide
  simp only [Lit.wf, Bool.and_eq_true, decide_eq_true_eq] at h
  omega
/-- A list of texts, as a call was given it. -/
theorem given_of {H : Type} {enc : TypeId × Value → H} {W : World} {a0 : Option Addr} {len cap : Nat} {d : DataW H} {ps : List MemPlace} (h : DataW.Trod enc Tryz.prog W 0 (fun _ => true) true 31 (.slice a0 len cap) d ps) (hlt : ∀ x ∈ ps, x.block < W.heap.size) :
    ∃ l : List (List UInt8), l.length ≤ 9223372036854775807 ∧ Given (.slice a0 len cap) l W := by
  obtain ⟨fuel0, hf0⟩ := h
  rcases open_strings Tryz.underlying31 Tryz.underlying9 lh_cellsString hf0 with ⟨hcs, hx⟩ | ⟨a, len', cap', ss, hcs, _, hl, hm, hz, hx, hcell, hws⟩
  · simp [Value.cells] at hcs
    obtain ⟨rfl, rfl, rfl⟩ := hcs
    exact ⟨[], by simp, Or.inr (Texts.nil W)⟩
  · simp [Value.cells] at hcs
    obtain ⟨rfl, rfl, rfl⟩ := hcs
    simp only [Prod.mk.injEq] at hx
    obtain ⟨rfl, rfl⟩ := hx
    simp only [if_true] at hz
    have hlen : (ss.take len).length = len := by rw [List.length_take]; omega
    have hmm : len ≤ 9223372036854775807 := by unfold maxLen at hm; omega
    by_cases hl0 : len = 0
    · subst hl0
      exact ⟨[], by simp, Or.inl ⟨rfl, _, _, rfl⟩⟩
    · obtain ⟨b, off, spot⟩ := a
      have hspot : spot = none := by simpa [Addr.add] using World.cell?_spot (hcell 0 (by omega))
      subst hspot
      have hbW : b < W.heap.size := hlt (.cell b off) (MemPlace.mem_row.2 ⟨0, by omega, by simp⟩)
      refine ⟨(ss.take len).map fun s => s.data.toList, by rw [List.length_map, hlen]; exact hmm, Or.inr (Or.inr ⟨b, off, cap, by rw [List.length_map, hlen], hbW, fun i hi => ?_⟩)⟩
      rw [List.length_map, hlen] at hi
      rw [← add_plain]
      have h1 := hcell i (by omega)
      have h2 : strv (((ss.take len).map fun s => s.data.toList).getD i []) = .string (ss.getD i ByteArray.empty) := by
        have hi2 : i < ss.length := by omega
        simp only [List.getD, List.getElem?_map, List.getElem?_take, if_pos hi, List.getElem?_eq_getElem hi2, Option.map_some, Option.getD_some]
        unfold strv
        rw [bs_self]
      rw [h2]; exact h1
/-- A world that meets it: the settled one, the variable's cell laid. -/
noncomputable def laidWorld (os : Os) : World :=
  let w0 := World.holding Tryz.prog os ⟨#[], #[], []⟩
  { w0 with heap := w0.heap.modify 0 fun
      | .cells _ t frozen => .cells #[.iface 160 (.agg #[.pointer (some ⟨2, 37, none⟩)])] t frozen
      | o => o }
theorem laidWorld_met (os : Os) (args : Array Value) : laidMetH Tryz.prog [("errors.errorType", Rows.laid_errors_errorType)] ((laidWorld os).forCall (fun _ _ => 0) ⟨#[], args, []⟩).memory :=
  laidMetH_of_parts (laidMet_nil _ _) (by kernel_rfl)
theorem lh_et : Tryz.prog.globalNamed "errors.errorType" = some 0 := by kernel_rfl
theorem lh_rt : (Tryz.prog.cutTypes.find? (·.1 == "internal/reflectlite.rtype")).map (·.2) = some 160 := by kernel_rfl
theorem lh_oneRow : ((List.range 229).filter fun t => Tryz.prog.rowNamed t [101, 114, 114, 111, 114]) = [37] := by kernel_rfl
theorem lh_size : Tryz.prog.types.size = 229 := by kernel_rfl
theorem errCell_of_laid {W : World} (h : laidMetH Tryz.prog [("errors.errorType", Rows.laid_errors_errorType)] W) : ErrCell W := by
  have h' : laidMet Tryz.prog [] W ∧ handlesMet Tryz.prog [("errors.errorType", Rows.laid_errors_errorType)] W := h
  obtain ⟨name, u, ty, e1, e2, e3, e4, e5⟩ := h'.2 _ (List.mem_singleton.2 rfl)
  have en : name = [101, 114, 114, 111, 114] := (Option.some.inj e1).symm
  subst en
  obtain rfl := Option.some.inj (lh_rt.symm.trans e2)
  have hm : ty ∈ (List.range 229).filter fun t => Tryz.prog.rowNamed t [101, 114, 114, 111, 114] := List.mem_filter.2 ⟨List.mem_range.2 (by rw [← lh_size]; exact e3), e4⟩
  rw [lh_oneRow] at hm
  obtain rfl := List.mem_singleton.1 hm
  have hh : typeHandle Tryz.prog 37 = .pointer (some ⟨2, 37, none⟩) := by kernel_rfl
  rw [hh] at e5
  unfold ErrCell
  simpa using World.var?_cell lh_et e5 0
theorem cellsBool : Tryz.prog.cellsOf 4 = 1 := by kernel_rfl
theorem getD_range {B : Nat → Bool} {n i : Nat} (h : i < n) : ((List.range n).map B).getD i false = B i := by simp [List.getD, h]
/-- A list of yes and no, as a call was given it. -/
theorem yes_of {H : Type} {enc : TypeId × Value → H} {W : World} {a1 : Option Addr} {klen kcap : Nat} {d : DataW H} {ps : List MemPlace} (h : DataW.Trod enc Tryz.prog W 0 (fun _ => true) true 46 (.slice a1 klen kcap) d ps) (hlt : ∀ x ∈ ps, x.block < W.heap.size) :
    ∃ kb ko ks keep, (∀ k ∈ ks, k < W.heap.size) ∧ Yes (.slice a1 klen kcap) kb ko ks keep W := by
  obtain ⟨fuel1, hf1⟩ := h
  rcases Go.Deep.open_bools Tryz.underlying46 Tryz.underlying4 cellsBool hf1 with ⟨hcs, hx⟩ | ⟨a, len', cap', B, hcs, _, hl, hm, hx, hcell⟩
  · simp [Value.cells] at hcs
    obtain ⟨rfl, rfl, rfl⟩ := hcs
    exact ⟨0, 0, [], [], (fun k hk => by cases hk), ⟨none, 0, rfl, Or.inl rfl⟩, Or.inl rfl, fun i hi => by simp at hi, by simp⟩
  · simp [Value.cells] at hcs
    obtain ⟨rfl, rfl, rfl⟩ := hcs
    simp only [Prod.mk.injEq] at hx
    obtain ⟨rfl, rfl⟩ := hx
    by_cases hk0 : klen = 0
    · subst hk0
      exact ⟨0, 0, [], [], (fun k hk => by cases hk), ⟨_, _, rfl, Or.inl rfl⟩, Or.inl rfl, fun i hi => by simp at hi, by simp⟩
    · obtain ⟨b, off, spot⟩ := a
      have hspot : spot = none := by simpa [Addr.add] using World.cell?_spot (hcell 0 (by omega))
      subst hspot
      have hbW : b < W.heap.size := hlt (.cell b off) (MemPlace.mem_row.2 ⟨0, by omega, by simp⟩)
      have hlen : ((List.range klen).map B).length = klen := by simp
      refine ⟨b, off, [b], (List.range klen).map B, (fun k hk => by simp at hk; rw [hk]; exact hbW), ⟨⟨_, kcap, by rw [hlen], Or.inr rfl⟩, Or.inr (by simp), fun i hi => ?_, by rw [hlen]; unfold maxLen at hm; omega⟩⟩
      rw [hlen] at hi
      rw [getD_range hi, ← add_plain]; exact hcell i (by omega)
end Go.Proofs.YtfancfladdecjaaGreatDoor

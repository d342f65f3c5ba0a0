/- The walks of layer 3's errors, and of asking which error one is. -/
import Derived.Test.YtkfbifondpbieaaFShelf
import Derived.LaidEql
import Derived.Stop.Asserts
namespace Go.Proofs.Ytkfbifondpbieaa
open Go.RowKit Go.Extern.Stop Go.Stop Go.Extern

/-- An error of a number, at block g. -/
def FaultAt (g : Nat) (c a : Int) (w : World) : Prop := w.heap[g]? = some (.cells [Value.int .i64 c, .int .i64 a, .nilIface].toArray 60 (0, 0))
theorem FaultAt.keep {g : Nat} {c a : Int} {w w' : World} (h : FaultAt g c a w) (hk : w'.heap[g]? = w.heap[g]?) : FaultAt g c a w' := hk.trans h
theorem FaultAt.lt {g : Nat} {c a : Int} {w : World} (h : FaultAt g c a w) : g < w.heap.size := lt_of_heap h
/-- .. as a value. -/
def faultV (g : Nat) : Value := .iface 56 (.pointer (some ⟨g, 0, none⟩))
theorem fault_any (c a : Int) (w : World) : Calls Try.prog 33 #[.int .i64 c, .int .i64 a] w fun e w' => e = .returned (.iface 56 (.pointer (some ⟨w.heap.size, 0, none⟩))) ∧ FaultAt w.heap.size c a w' ∧ Below w.heap.size w w' := by
  go_enter Try.func33, Try.ntmps33
  go_wp2
  go_ret
  exact ⟨rfl, heap_alloc_new _ _, (Below.refl _ _).alloc (Nat.le_refl _) _⟩

theorem typeOf_errno (v : Value) (w : World) : (Extern.ReflectliteType.typeOf #[.iface 58 v]).run Try.prog w = .ok (.iface 83 (.agg #[.pointer (some ⟨1, 58, none⟩)])) w := by kernel_rfl
theorem comparable_errno (w : World) : (callFunc 71 #[.agg #[.pointer (some ⟨1, 58, none⟩)]]).run Try.prog w = .ok (.value (.bool true)) w := by kernel_rfl
theorem method_comparable (v : Value) (w : World) : (Go.method 227 83 v "Comparable").run Try.prog w = .ok (71, v) w := by kernel_rfl
theorem method_is (v : Value) (w : World) : (Go.method 227 56 v "Is").run Try.prog w = .ok (64, v) w := by kernel_rfl
theorem has_is (v : Value) (xT : TypeId) (w : World) : (Instr.typeAssert (.iface 56 v) xT 85 true).run Try.prog w = .ok (.tuple #[.iface 56 v, .bool true]) w := run_typeAssert_hasB Try.underlying85 (by kernel_rfl) v xT w
theorem assert_errno (c : Int) (xT : TypeId) (w : World) : (Instr.typeAssert (.iface 58 (.int .i64 c)) xT 58 true).run Try.prog w = .ok (.tuple #[.int .i64 c, .bool true]) w := by kernel_rfl
theorem assert_fault (v : Value) (xT : TypeId) (w : World) : (Instr.typeAssert (.iface 56 v) xT 56 true).run Try.prog w = .ok (.tuple #[v, .bool true]) w := by kernel_rfl
set_option maxHeartbeats 1000000 in
theorem FaultIs_true (g : Nat) (c a : Int) (w : World) (h : FaultAt g c a w) :
    Calls Try.prog 64 #[.pointer (some ⟨g, 0, none⟩), .iface 58 (.int .i64 c)] w fun e w' => e = .returned (.bool true) ∧ w = w' := by
  have c0 : w.cell? ⟨g, 0, none⟩ = some (.int .i64 c) := by rw [cell_of_list h]; rfl
  have ae := assert_errno c
  clear h
  go_enter Try.func64, Try.ntmps64
  go_wp2
  go_ret
  exact ⟨rfl, rfl⟩
set_option maxHeartbeats 1000000 in
theorem errorsis_true (g : Nat) (c a : Int) (w : World) (h : FaultAt g c a w) :
    Calls Try.prog 42 #[.iface 56 (.pointer (some ⟨g, 0, none⟩)), .iface 58 (.int .i64 c), .bool true] w fun e w' => e = .returned (.bool true) ∧ w = w' := by
  have mI := method_is
  have hI := has_is
  have hty := run_eql_iface_types (P := Try.prog) 56 58 (.pointer (some ⟨g, 0, none⟩)) (.int .i64 c) Try.underlying30 (by decide) w
  have H := Lib.hid h
  clear h
  go_enter Try.func42, Try.ntmps42
  go_wp2_with fail
  refine wp_loop_rounds 1 ?_
  rw [rounds_succ]
  go_wp2_with (go_at_call 64; refine (FaultIs_true g c a _ H.out).mono ?_; rintro e w' ⟨rfl, rfl⟩)
  go_ret
  exact ⟨rfl, rfl⟩
set_option maxHeartbeats 1000000 in
theorem errorsIs_true (g : Nat) (c a : Int) (w : World) (h : FaultAt g c a w) :
    Calls Try.prog 32 #[.iface 56 (.pointer (some ⟨g, 0, none⟩)), .iface 58 (.int .i64 c)] w fun e w' => e = .returned (.bool true) ∧ w = w' := by
  have h8 := @run_callFunc_extern Try.prog 41 _ Extern.ReflectliteType.typeOf Try.func41 (by kernel_rfl) (by kernel_rfl) (by kernel_rfl) (by kernel_rfl)
  have tT := typeOf_errno
  have cT := comparable_errno
  have mR := method_comparable
  have H := Lib.hid h
  clear h
  go_enter Try.func32, Try.ntmps32
  go_wp2_with (go_at_call 42; refine (errorsis_true g c a _ H.out).mono ?_; rintro e w' ⟨rfl, rfl⟩)
  go_ret
  exact ⟨rfl, rfl⟩
set_option maxHeartbeats 1000000 in
theorem is_fault (g : Nat) (c a : Int) (hc : c ≠ 0) (w : World) (h : FaultAt g c a w) :
    Calls Try.prog 19 #[.iface 56 (.pointer (some ⟨g, 0, none⟩)), .int .i64 c, .int .i64 a] w fun e w' => e = .returned (.bool true) ∧ w = w' := by
  have c0 : w.cell? ⟨g, 0, none⟩ = some (.int .i64 c) := by rw [cell_of_list h]; rfl
  have c1 : w.cell? ⟨g, 1, none⟩ = some (.int .i64 a) := by rw [cell_of_list h]; rfl
  have c2 : w.cell? ⟨g, 2, none⟩ = some .nilIface := by rw [cell_of_list h]; rfl
  have hb : (c == 0) = false := by rw [beq_eq_false_iff_ne]; exact hc
  have af := assert_fault
  have H := Lib.hid h
  clear h hc
  go_enter Try.func19, Try.ntmps19
  go_wp2_with (go_at_call 32; refine (errorsIs_true g c a _ H.out).mono ?_; rintro e w' ⟨rfl, rfl⟩)
  go_ret
  exact ⟨rfl, rfl⟩
theorem is_none (a : Int) (w : World) : Calls Try.prog 19 #[.nilIface, .int .i64 0, .int .i64 a] w fun e w' => e = .returned (.bool true) ∧ w = w' := by
  go_enter Try.func19, Try.ntmps19
  go_wp2
  go_ret
  exact ⟨rfl, rfl⟩
end Go.Proofs.Ytkfbifondpbieaa

/- The walks of layer 3's errors, and of asking which error one is. -/
import Derived.Test.YtmobjpandmdmdaaGreatDoorFShelf
import Derived.LaidEql
import Derived.Stop.Asserts
namespace Go.Proofs.YtmobjpandmdmdaaGreatDoor
open Go.RowKit Go.Extern.Stop Go.Stop Go.Extern

/-- An error of a number, at block g. -/
def FaultAt (g : Nat) (c a : Int) (w : World) : Prop := w.heap[g]? = some (.cells [Value.int .i64 c, .int .i64 a, .nilIface].toArray 85 (0, 0))
theorem FaultAt.keep {g : Nat} {c a : Int} {w w' : World} (h : FaultAt g c a w) (hk : w'.heap[g]? = w.heap[g]?) : FaultAt g c a w' := hk.trans h
theorem FaultAt.lt {g : Nat} {c a : Int} {w : World} (h : FaultAt g c a w) : g < w.heap.size := lt_of_heap h
/-- .. as a value. -/
def faultV (g : Nat) : Value := .iface 82 (.pointer (some ⟨g, 0, none⟩))
theorem fault_any (c a : Int) (w : World) : Calls Tryz.prog 86 #[.int .i64 c, .int .i64 a] w fun e w' => e = .returned (.iface 82 (.pointer (some ⟨w.heap.size, 0, none⟩))) ∧ FaultAt w.heap.size c a w' ∧ Below w.heap.size w w' := by
  go_enter Tryz.func86, Tryz.ntmps86
  go_wp2
  go_ret
  exact ⟨rfl, heap_alloc_new _ _, (Below.refl _ _).alloc (Nat.le_refl _) _⟩

theorem typeOf_errno (v : Value) (w : World) : (Extern.ReflectliteType.typeOf #[.iface 68 v]).run Tryz.prog w = .ok (.iface 148 (.agg #[.pointer (some ⟨2, 68, none⟩)])) w := by kernel_rfl
theorem comparable_errno (w : World) : (callFunc 133 #[.agg #[.pointer (some ⟨2, 68, none⟩)]]).run Tryz.prog w = .ok (.value (.bool true)) w := by kernel_rfl
theorem method_comparable (v : Value) (w : World) : (Go.method 308 148 v "Comparable").run Tryz.prog w = .ok (133, v) w := by kernel_rfl
theorem method_is (v : Value) (w : World) : (Go.method 308 82 v "Is").run Tryz.prog w = .ok (125, v) w := by kernel_rfl
theorem has_is (v : Value) (xT : TypeId) (w : World) : (Instr.typeAssert (.iface 82 v) xT 150 true).run Tryz.prog w = .ok (.tuple #[.iface 82 v, .bool true]) w := run_typeAssert_hasB Tryz.underlying150 (by kernel_rfl) v xT w
theorem assert_errno (c : Int) (xT : TypeId) (w : World) : (Instr.typeAssert (.iface 68 (.int .i64 c)) xT 68 true).run Tryz.prog w = .ok (.tuple #[.int .i64 c, .bool true]) w := by kernel_rfl
theorem assert_fault (v : Value) (xT : TypeId) (w : World) : (Instr.typeAssert (.iface 82 v) xT 82 true).run Tryz.prog w = .ok (.tuple #[v, .bool true]) w := by kernel_rfl
set_option maxHeartbeats 1000000 in
theorem FaultIs_true (g : Nat) (c a : Int) (w : World) (h : FaultAt g c a w) :
    Calls Tryz.prog 125 #[.pointer (some ⟨g, 0, none⟩), .iface 68 (.int .i64 c)] w fun e w' => e = .returned (.bool true) ∧ w = w' := by
  have c0 : w.cell? ⟨g, 0, none⟩ = some (.int .i64 c) := by rw [cell_of_list h]; rfl
  have ae := assert_errno c
  clear h
  go_enter Tryz.func125, Tryz.ntmps125
  go_wp2
  go_ret
  exact ⟨rfl, rfl⟩
set_option maxHeartbeats 1000000 in
theorem errorsis_true (g : Nat) (c a : Int) (w : World) (h : FaultAt g c a w) :
    Calls Tryz.prog 62 #[.iface 82 (.pointer (some ⟨g, 0, none⟩)), .iface 68 (.int .i64 c), .bool true] w fun e w' => e = .returned (.bool true) ∧ w = w' := by
  have mI := method_is
  have hI := has_is
  have hty := run_eql_iface_types (P := Tryz.prog) 82 68 (.pointer (some ⟨g, 0, none⟩)) (.int .i64 c) Tryz.underlying33 (by decide) w
  have H := Lib.hid h
  clear h
  go_enter Tryz.func62, Tryz.ntmps62
  go_wp2_with fail
  refine wp_loop_rounds 1 ?_
  rw [rounds_succ]
  go_wp2_with (go_at_call 125; refine (FaultIs_true g c a _ H.out).mono ?_; rintro e w' ⟨rfl, rfl⟩)
  go_ret
  exact ⟨rfl, rfl⟩
set_option maxHeartbeats 1000000 in
theorem errorsIs_true (g : Nat) (c a : Int) (w : World) (h : FaultAt g c a w) :
    Calls Tryz.prog 39 #[.iface 82 (.pointer (some ⟨g, 0, none⟩)), .iface 68 (.int .i64 c)] w fun e w' => e = .returned (.bool true) ∧ w = w' := by
  have h8 := @run_callFunc_extern Tryz.prog 61 _ Extern.ReflectliteType.typeOf Tryz.func61 (by kernel_rfl) (by kernel_rfl) (by kernel_rfl) (by kernel_rfl)
  have tT := typeOf_errno
  have cT := comparable_errno
  have mR := method_comparable
  have H := Lib.hid h
  clear h
  go_enter Tryz.func39, Tryz.ntmps39
  go_wp2_with (go_at_call 62; refine (errorsis_true g c a _ H.out).mono ?_; rintro e w' ⟨rfl, rfl⟩)
  go_ret
  exact ⟨rfl, rfl⟩
end Go.Proofs.YtmobjpandmdmdaaGreatDoor

/- The walks of layer 3's errors, and of asking which error one is. -/
import Derived.Test.YtfancfladdecjaaGreatDoorFShelf
import Derived.LaidEql
import Derived.Stop.Asserts
namespace Go.Proofs.YtfancfladdecjaaGreatDoor
open Go.RowKit Go.Extern.Stop Go.Stop Go.Extern

/-- An error of a number, at block g. -/
def FaultAt (g : Nat) (c a : Int) (w : World) : Prop := w.heap[g]? = some (.cells [Value.int .i64 c, .int .i64 a, .nilIface].toArray 109 (0, 0))
theorem FaultAt.keep {g : Nat} {c a : Int} {w w' : World} (h : FaultAt g c a w) (hk : w'.heap[g]? = w.heap[g]?) : FaultAt g c a w' := hk.trans h
theorem FaultAt.lt {g : Nat} {c a : Int} {w : World} (h : FaultAt g c a w) : g < w.heap.size := lt_of_heap h
/-- .. as a value. -/
def faultV (g : Nat) : Value := .iface 106 (.pointer (some ⟨g, 0, none⟩))
theorem fault_any (c a : Int) (w : World) : Calls Tryz.prog 108 #[.int .i64 c, .int .i64 a] w fun e w' => e = .returned (.iface 106 (.pointer (some ⟨w.heap.size, 0, none⟩))) ∧ FaultAt w.heap.size c a w' ∧ Below w.heap.size w w' := by
  go_enter Tryz.func108, Tryz.ntmps108
  go_wp2
  go_ret
  exact ⟨rfl, heap_alloc_new _ _, (Below.refl _ _).alloc (Nat.le_refl _) _⟩

theorem typeOf_errno (v : Value) (w : World) : (Extern.ReflectliteType.typeOf #[.iface 67 v]).run Tryz.prog w = .ok (.iface 160 (.agg #[.pointer (some ⟨2, 67, none⟩)])) w := by kernel_rfl
theorem comparable_errno (w : World) : (callFunc 153 #[.agg #[.pointer (some ⟨2, 67, none⟩)]]).run Tryz.prog w = .ok (.value (.bool true)) w := by kernel_rfl
theorem method_comparable (v : Value) (w : World) : (Go.method 329 160 v "Comparable").run Tryz.prog w = .ok (153, v) w := by kernel_rfl
theorem method_is (v : Value) (w : World) : (Go.method 329 106 v "Is").run Tryz.prog w = .ok (145, v) w := by kernel_rfl
theorem has_is (v : Value) (xT : TypeId) (w : World) : (Instr.typeAssert (.iface 106 v) xT 162 true).run Tryz.prog w = .ok (.tuple #[.iface 106 v, .bool true]) w := run_typeAssert_hasB Tryz.underlying162 (by kernel_rfl) v xT w
theorem assert_errno (c : Int) (xT : TypeId) (w : World) : (Instr.typeAssert (.iface 67 (.int .i64 c)) xT 67 true).run Tryz.prog w = .ok (.tuple #[.int .i64 c, .bool true]) w := by kernel_rfl
theorem assert_fault (v : Value) (xT : TypeId) (w : World) : (Instr.typeAssert (.iface 106 v) xT 106 true).run Tryz.prog w = .ok (.tuple #[v, .bool true]) w := by kernel_rfl
set_option maxHeartbeats 1000000 in
theorem FaultIs_true (g : Nat) (c a : Int) (w : World) (h : FaultAt g c a w) :
    Calls Tryz.prog 145 #[.pointer (some ⟨g, 0, none⟩), .iface 67 (.int .i64 c)] w fun e w' => e = .returned (.bool true) ∧ w = w' := by
  have c0 : w.cell? ⟨g, 0, none⟩ = some (.int .i64 c) := by rw [cell_of_list h]; rfl
  have ae := assert_errno c
  clear h
  go_enter Tryz.func145, Tryz.ntmps145
  go_wp2
  go_ret
  exact ⟨rfl, rfl⟩
set_option maxHeartbeats 1000000 in
theorem errorsis_true (g : Nat) (c a : Int) (w : World) (h : FaultAt g c a w) :
    Calls Tryz.prog 68 #[.iface 106 (.pointer (some ⟨g, 0, none⟩)), .iface 67 (.int .i64 c), .bool true] w fun e w' => e = .returned (.bool true) ∧ w = w' := by
  have mI := method_is
  have hI := has_is
  have hty := run_eql_iface_types (P := Tryz.prog) 106 67 (.pointer (some ⟨g, 0, none⟩)) (.int .i64 c) Tryz.underlying37 (by decide) w
  have H := Lib.hid h
  clear h
  go_enter Tryz.func68, Tryz.ntmps68
  go_wp2_with fail
  refine wp_loop_rounds 1 ?_
  rw [rounds_succ]
  go_wp2_with (go_at_call 145; refine (FaultIs_true g c a _ H.out).mono ?_; rintro e w' ⟨rfl, rfl⟩)
  go_ret
  exact ⟨rfl, rfl⟩
set_option maxHeartbeats 1000000 in
theorem errorsIs_true (g : Nat) (c a : Int) (w : World) (h : FaultAt g c a w) :
    Calls Tryz.prog 33 #[.iface 106 (.pointer (some ⟨g, 0, none⟩)), .iface 67 (.int .i64 c)] w fun e w' => e = .returned (.bool true) ∧ w = w' := by
  have h8 := @run_callFunc_extern Tryz.prog 67 _ Extern.ReflectliteType.typeOf Tryz.func67 (by kernel_rfl) (by kernel_rfl) (by kernel_rfl) (by kernel_rfl)
  have tT := typeOf_errno
  have cT := comparable_errno
  have mR := method_comparable
  have H := Lib.hid h
  clear h
  go_enter Tryz.func33, Tryz.ntmps33
  go_wp2_with (go_at_call 68; refine (errorsis_true g c a _ H.out).mono ?_; rintro e w' ⟨rfl, rfl⟩)
  go_ret
  exact ⟨rfl, rfl⟩
end Go.Proofs.YtfancfladdecjaaGreatDoor

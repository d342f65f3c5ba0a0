/- The walks of this layer's errors, and of asking which error one is. -/
import Derived.Test.YtkpnllaegkdkkaaDBase
import Derived.LaidEql
import Derived.Stop.Asserts
namespace Go.Proofs.Ytkpnllaegkdkkaa
open Go.RowKit Go.Extern.Stop Go.Stop Go.Extern

/-- An error of a number, at block g. -/
def FaultAt (g : Nat) (c : Int) (w : World) : Prop := w.heap[g]? = some (.cells [Value.int .i64 c, .int .i64 0, .nilIface].toArray 89 (0, 0))
theorem FaultAt.keep {g : Nat} {c : Int} {w w' : World} (h : FaultAt g c w) (hk : w'.heap[g]? = w.heap[g]?) : FaultAt g c w' := hk.trans h
theorem FaultAt.lt {g : Nat} {c : Int} {w : World} (h : FaultAt g c w) : g < w.heap.size := lt_of_heap h
/-- .. as a value. -/
def faultV (g : Nat) : Value := .iface 87 (.pointer (some ⟨g, 0, none⟩))
theorem fault_any (c : Int) (w : World) : Calls Try.prog 18 #[.int .i64 c] w fun e w' => e = .returned (.iface 87 (.pointer (some ⟨w.heap.size, 0, none⟩))) ∧ FaultAt w.heap.size c w' ∧ Below w.heap.size w w' := by
  go_enter Try.func18, Try.ntmps18
  go_wp2
  go_ret
  exact ⟨rfl, heap_alloc_new _ _, (Below.refl _ _).alloc (Nat.le_refl _) _⟩

theorem typeOf_errno (v : Value) (w : World) : (Extern.ReflectliteType.typeOf #[.iface 60 v]).run Try.prog w = .ok (.iface 110 (.agg #[.pointer (some ⟨1, 60, none⟩)])) w := by kernel_rfl
theorem comparable_errno (w : World) : (callFunc 85 #[.agg #[.pointer (some ⟨1, 60, none⟩)]]).run Try.prog w = .ok (.value (.bool true)) w := by kernel_rfl
theorem method_comparable (v : Value) (w : World) : (Go.method 253 110 v "Comparable").run Try.prog w = .ok (85, v) w := by kernel_rfl
theorem method_is (v : Value) (w : World) : (Go.method 253 87 v "Is").run Try.prog w = .ok (79, v) w := by kernel_rfl
theorem has_is (v : Value) (xT : TypeId) (w : World) : (Instr.typeAssert (.iface 87 v) xT 112 true).run Try.prog w = .ok (.tuple #[.iface 87 v, .bool true]) w := run_typeAssert_hasB Try.underlying112 (by kernel_rfl) v xT w
theorem assert_errno (c : Int) (xT : TypeId) (w : World) : (Instr.typeAssert (.iface 60 (.int .i64 c)) xT 60 true).run Try.prog w = .ok (.tuple #[.int .i64 c, .bool true]) w := by kernel_rfl
theorem assert_fault (v : Value) (xT : TypeId) (w : World) : (Instr.typeAssert (.iface 87 v) xT 87 true).run Try.prog w = .ok (.tuple #[v, .bool true]) w := by kernel_rfl
set_option maxHeartbeats 1000000 in
theorem FaultIs_true (g : Nat) (c : Int) (w : World) (h : FaultAt g c w) :
    Calls Try.prog 79 #[.pointer (some ⟨g, 0, none⟩), .iface 60 (.int .i64 c)] w fun e w' => e = .returned (.bool true) ∧ w = w' := by
  have c0 : w.cell? ⟨g, 0, none⟩ = some (.int .i64 c) := by rw [cell_of_list h]; rfl
  have ae := assert_errno c
  clear h
  go_enter Try.func79, Try.ntmps79
  go_wp2
  go_ret
  exact ⟨rfl, rfl⟩
set_option maxHeartbeats 1000000 in
theorem errorsis_true (g : Nat) (c : Int) (w : World) (h : FaultAt g c w) :
    Calls Try.prog 57 #[.iface 87 (.pointer (some ⟨g, 0, none⟩)), .iface 60 (.int .i64 c), .bool true] w fun e w' => e = .returned (.bool true) ∧ w = w' := by
  have mI := method_is
  have hI := has_is
  have hty := run_eql_iface_types (P := Try.prog) 87 60 (.pointer (some ⟨g, 0, none⟩)) (.int .i64 c) Try.underlying39 (by decide) w
  have H := Lib.hid h
  clear h
  go_enter Try.func57, Try.ntmps57
  go_wp2_with fail
  refine wp_loop_rounds 1 ?_
  rw [rounds_succ]
  go_wp2_with (go_at_call 79; refine (FaultIs_true g c _ H.out).mono ?_; rintro e w' ⟨rfl, rfl⟩)
  go_ret
  exact ⟨rfl, rfl⟩
set_option maxHeartbeats 1000000 in
theorem errorsIs_true (g : Nat) (c : Int) (w : World) (h : FaultAt g c w) :
    Calls Try.prog 50 #[.iface 87 (.pointer (some ⟨g, 0, none⟩)), .iface 60 (.int .i64 c)] w fun e w' => e = .returned (.bool true) ∧ w = w' := by
  have h8 := @run_callFunc_extern Try.prog 56 _ Extern.ReflectliteType.typeOf Try.func56 (by kernel_rfl) (by kernel_rfl) (by kernel_rfl) (by kernel_rfl)
  have tT := typeOf_errno
  have cT := comparable_errno
  have mR := method_comparable
  have H := Lib.hid h
  clear h
  go_enter Try.func50, Try.ntmps50
  go_wp2_with (go_at_call 57; refine (errorsis_true g c _ H.out).mono ?_; rintro e w' ⟨rfl, rfl⟩)
  go_ret
  exact ⟨rfl, rfl⟩
set_option maxHeartbeats 1000000 in
theorem is_fault (g : Nat) (c : Int) (hc : c ≠ 0) (w : World) (h : FaultAt g c w) :
    Calls Try.prog 22 #[.iface 87 (.pointer (some ⟨g, 0, none⟩)), .int .i64 c] w fun e w' => e = .returned (.bool true) ∧ w = w' := by
  have c0 : w.cell? ⟨g, 0, none⟩ = some (.int .i64 c) := by rw [cell_of_list h]; rfl
  have c1 : w.cell? ⟨g, 1, none⟩ = some (.int .i64 0) := by rw [cell_of_list h]; rfl
  have c2 : w.cell? ⟨g, 2, none⟩ = some .nilIface := by rw [cell_of_list h]; rfl
  have hb : (c == 0) = false := by rw [beq_eq_false_iff_ne]; exact hc
  have af := assert_fault
  have H := Lib.hid h
  clear h hc
  go_enter Try.func22, Try.ntmps22
  go_wp2_with (go_at_call 50; refine (errorsIs_true g c _ H.out).mono ?_; rintro e w' ⟨rfl, rfl⟩)
  go_ret
  exact ⟨rfl, rfl⟩
theorem is_none (w : World) : Calls Try.prog 22 #[.nilIface, .int .i64 0] w fun e w' => e = .returned (.bool true) ∧ w = w' := by
  go_enter Try.func22, Try.ntmps22
  go_wp2
  go_ret
  exact ⟨rfl, rfl⟩
end Go.Proofs.Ytkpnllaegkdkkaa

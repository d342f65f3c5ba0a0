/- The walks of layer 3's errors, and of asking which error one is. -/
import Derived.Test.YtdimkgidaioolaaFShelf
import Derived.LaidEql
import Derived.Stop.Asserts
namespace Go.Proofs.Ytdimkgidaioolaa
open Go.RowKit Go.Extern.Stop Go.Stop Go.Extern

/-- An error of a number, at block g. -/
def FaultAt (g : Nat) (c a : Int) (w : World) : Prop := w.heap[g]? = some (.cells [Value.int .i64 c, .int .i64 a, .nilIface].toArray 58 (0, 0))
theorem FaultAt.keep {g : Nat} {c a : Int} {w w' : World} (h : FaultAt g c a w) (hk : w'.heap[g]? = w.heap[g]?) : FaultAt g c a w' := hk.trans h
theorem FaultAt.lt {g : Nat} {c a : Int} {w : World} (h : FaultAt g c a w) : g < w.heap.size := lt_of_heap h
/-- .. as a value. -/
def faultV (g : Nat) : Value := .iface 55 (.pointer (some ⟨g, 0, none⟩))
theorem fault_any (c a : Int) (w : World) : Calls Try.prog 44 #[.int .i64 c, .int .i64 a] w fun e w' => e = .returned (.iface 55 (.pointer (some ⟨w.heap.size, 0, none⟩))) ∧ FaultAt w.heap.size c a w' ∧ Below w.heap.size w w' := by
  go_enter Try.func44, Try.ntmps44
  go_wp2
  go_ret
  exact ⟨rfl, heap_alloc_new _ _, (Below.refl _ _).alloc (Nat.le_refl _) _⟩

theorem typeOf_errno (v : Value) (w : World) : (Extern.ReflectliteType.typeOf #[.iface 39 v]).run Try.prog w = .ok (.iface 87 (.agg #[.pointer (some ⟨1, 39, none⟩)])) w := by kernel_rfl
theorem comparable_errno (w : World) : (callFunc 86 #[.agg #[.pointer (some ⟨1, 39, none⟩)]]).run Try.prog w = .ok (.value (.bool true)) w := by kernel_rfl
theorem method_comparable (v : Value) (w : World) : (Go.method 255 87 v "Comparable").run Try.prog w = .ok (86, v) w := by kernel_rfl
theorem method_is (v : Value) (w : World) : (Go.method 255 55 v "Is").run Try.prog w = .ok (81, v) w := by kernel_rfl
theorem has_is (v : Value) (xT : TypeId) (w : World) : (Instr.typeAssert (.iface 55 v) xT 89 true).run Try.prog w = .ok (.tuple #[.iface 55 v, .bool true]) w := run_typeAssert_hasB Try.underlying89 (by kernel_rfl) v xT w
theorem assert_errno (c : Int) (xT : TypeId) (w : World) : (Instr.typeAssert (.iface 39 (.int .i64 c)) xT 39 true).run Try.prog w = .ok (.tuple #[.int .i64 c, .bool true]) w := by kernel_rfl
theorem assert_fault (v : Value) (xT : TypeId) (w : World) : (Instr.typeAssert (.iface 55 v) xT 55 true).run Try.prog w = .ok (.tuple #[v, .bool true]) w := by kernel_rfl
set_option maxHeartbeats 1000000 in
theorem FaultIs_true (g : Nat) (c a : Int) (w : World) (h : FaultAt g c a w) :
    Calls Try.prog 81 #[.pointer (some ⟨g, 0, none⟩), .iface 39 (.int .i64 c)] w fun e w' => e = .returned (.bool true) ∧ w = w' := by
  have c0 : w.cell? ⟨g, 0, none⟩ = some (.int .i64 c) := by rw [cell_of_list h]; rfl
  have ae := assert_errno c
  clear h
  go_enter Try.func81, Try.ntmps81
  go_wp2
  go_ret
  exact ⟨rfl, rfl⟩
set_option maxHeartbeats 1000000 in
theorem errorsis_true (g : Nat) (c a : Int) (w : World) (h : FaultAt g c a w) :
    Calls Try.prog 36 #[.iface 55 (.pointer (some ⟨g, 0, none⟩)), .iface 39 (.int .i64 c), .bool true] w fun e w' => e = .returned (.bool true) ∧ w = w' := by
  have mI := method_is
  have hI := has_is
  have hty := run_eql_iface_types (P := Try.prog) 55 39 (.pointer (some ⟨g, 0, none⟩)) (.int .i64 c) Try.underlying24 (by decide) w
  have H := Lib.hid h
  clear h
  go_enter Try.func36, Try.ntmps36
  go_wp2_with fail
  refine wp_loop_rounds 1 ?_
  rw [rounds_succ]
  go_wp2_with (go_at_call 81; refine (FaultIs_true g c a _ H.out).mono ?_; rintro e w' ⟨rfl, rfl⟩)
  go_ret
  exact ⟨rfl, rfl⟩
set_option maxHeartbeats 1000000 in
theorem errorsIs_true (g : Nat) (c a : Int) (w : World) (h : FaultAt g c a w) :
    Calls Try.prog 24 #[.iface 55 (.pointer (some ⟨g, 0, none⟩)), .iface 39 (.int .i64 c)] w fun e w' => e = .returned (.bool true) ∧ w = w' := by
  have h8 := @run_callFunc_extern Try.prog 35 _ Extern.ReflectliteType.typeOf Try.func35 (by kernel_rfl) (by kernel_rfl) (by kernel_rfl) (by kernel_rfl)
  have tT := typeOf_errno
  have cT := comparable_errno
  have mR := method_comparable
  have H := Lib.hid h
  clear h
  go_enter Try.func24, Try.ntmps24
  go_wp2_with (go_at_call 36; refine (errorsis_true g c a _ H.out).mono ?_; rintro e w' ⟨rfl, rfl⟩)
  go_ret
  exact ⟨rfl, rfl⟩
set_option maxHeartbeats 1000000 in
theorem is_fault (g : Nat) (c a : Int) (hc : c ≠ 0) (w : World) (h : FaultAt g c a w) :
    Calls Try.prog 10 #[.iface 55 (.pointer (some ⟨g, 0, none⟩)), .int .i64 c, .int .i64 a] w fun e w' => e = .returned (.bool true) ∧ w = w' := by
  have c0 : w.cell? ⟨g, 0, none⟩ = some (.int .i64 c) := by rw [cell_of_list h]; rfl
  have c1 : w.cell? ⟨g, 1, none⟩ = some (.int .i64 a) := by rw [cell_of_list h]; rfl
  have c2 : w.cell? ⟨g, 2, none⟩ = some .nilIface := by rw [cell_of_list h]; rfl
  have hb : (c == 0) = false := by rw [beq_eq_false_iff_ne]; exact hc
  have af := assert_fault
  have H := Lib.hid h
  clear h hc
  go_enter Try.func10, Try.ntmps10
  go_wp2_with (go_at_call 24; refine (errorsIs_true g c a _ H.out).mono ?_; rintro e w' ⟨rfl, rfl⟩)
  go_ret
  exact ⟨rfl, rfl⟩
theorem is_none (a : Int) (w : World) : Calls Try.prog 10 #[.nilIface, .int .i64 0, .int .i64 a] w fun e w' => e = .returned (.bool true) ∧ w = w' := by
  go_enter Try.func10, Try.ntmps10
  go_wp2
  go_ret
  exact ⟨rfl, rfl⟩
end Go.Proofs.Ytdimkgidaioolaa

/- The walks of asking which error one is. -/
import Derived.Test.YtnaeekjocaecmaaMCau
import Derived.LaidEql
import Derived.Stop.Asserts
namespace Go.Proofs.Ytnaeekjocaecmaa
open Go.RowKit Go.Extern.Stop Go.Stop Go.Extern

theorem typeOf_errno (v : Value) (w : World) : (Extern.ReflectliteType.typeOf #[.iface 65 v]).run Try.prog w = .ok (.iface 102 (.agg #[.pointer (some ⟨0, 65, none⟩)])) w := by kernel_rfl
theorem comparable_errno (w : World) : (callFunc 93 #[.agg #[.pointer (some ⟨0, 65, none⟩)]]).run Try.prog w = .ok (.value (.bool true)) w := by kernel_rfl
theorem method_comparable (v : Value) (w : World) : (Go.method 252 102 v "Comparable").run Try.prog w = .ok (93, v) w := by kernel_rfl
theorem method_is (v : Value) (w : World) : (Go.method 252 73 v "Is").run Try.prog w = .ok (88, v) w := by kernel_rfl
theorem has_is (v : Value) (xT : TypeId) (w : World) : (Instr.typeAssert (.iface 73 v) xT 104 true).run Try.prog w = .ok (.tuple #[.iface 73 v, .bool true]) w := run_typeAssert_hasB Try.underlying104 (by kernel_rfl) v xT w
theorem assert_errno (c : Int) (xT : TypeId) (w : World) : (Instr.typeAssert (.iface 65 (.int .i64 c)) xT 65 true).run Try.prog w = .ok (.tuple #[.int .i64 c, .bool true]) w := by kernel_rfl
theorem assert_fault (v : Value) (xT : TypeId) (w : World) : (Instr.typeAssert (.iface 73 v) xT 73 true).run Try.prog w = .ok (.tuple #[v, .bool true]) w := by kernel_rfl
set_option maxHeartbeats 1000000 in
theorem FaultIs_true (g : Nat) (c a : Int) (w : World) (h : FaultAt g c a w) :
    Calls Try.prog 88 #[.pointer (some ⟨g, 0, none⟩), .iface 65 (.int .i64 c)] w fun e w' => e = .returned (.bool true) ∧ w = w' := by
  have c0 : w.cell? ⟨g, 0, none⟩ = some (.int .i64 c) := by rw [cell_of_list h]; rfl
  have ae := assert_errno c
  clear h
  go_enter Try.func88, Try.ntmps88
  go_wp2
  go_ret
  exact ⟨rfl, rfl⟩
set_option maxHeartbeats 1000000 in
theorem errorsis_true (g : Nat) (c a : Int) (w : World) (h : FaultAt g c a w) :
    Calls Try.prog 58 #[.iface 73 (.pointer (some ⟨g, 0, none⟩)), .iface 65 (.int .i64 c), .bool true] w fun e w' => e = .returned (.bool true) ∧ w = w' := by
  have mI := method_is
  have hI := has_is
  have hty := run_eql_iface_types (P := Try.prog) 73 65 (.pointer (some ⟨g, 0, none⟩)) (.int .i64 c) Try.underlying27 (by decide) w
  have H := Lib.hid h
  clear h
  go_enter Try.func58, Try.ntmps58
  go_wp2_with fail
  refine wp_loop_rounds 1 ?_
  rw [rounds_succ]
  go_wp2_with (go_at_call 88; refine (FaultIs_true g c a _ H.out).mono ?_; rintro e w' ⟨rfl, rfl⟩)
  go_ret
  exact ⟨rfl, rfl⟩
set_option maxHeartbeats 1000000 in
theorem errorsIs_true (g : Nat) (c a : Int) (w : World) (h : FaultAt g c a w) :
    Calls Try.prog 43 #[.iface 73 (.pointer (some ⟨g, 0, none⟩)), .iface 65 (.int .i64 c)] w fun e w' => e = .returned (.bool true) ∧ w = w' := by
  have h8 := @run_callFunc_extern Try.prog 57 _ Extern.ReflectliteType.typeOf Try.func57 (by kernel_rfl) (by kernel_rfl) (by kernel_rfl) (by kernel_rfl)
  have tT := typeOf_errno
  have cT := comparable_errno
  have mR := method_comparable
  have H := Lib.hid h
  clear h
  go_enter Try.func43, Try.ntmps43
  go_wp2_with (go_at_call 58; refine (errorsis_true g c a _ H.out).mono ?_; rintro e w' ⟨rfl, rfl⟩)
  go_ret
  exact ⟨rfl, rfl⟩
set_option maxHeartbeats 1000000 in
theorem is_fault (g : Nat) (c : Int) (hc : c ≠ 0) (w : World) (h : FaultAt g c 0 w) :
    Calls Try.prog 13 #[.iface 73 (.pointer (some ⟨g, 0, none⟩)), .int .i64 c] w fun e w' => e = .returned (.bool true) ∧ w = w' := by
  have c0 : w.cell? ⟨g, 0, none⟩ = some (.int .i64 c) := by rw [cell_of_list h]; rfl
  have c1 : w.cell? ⟨g, 1, none⟩ = some (.int .i64 0) := by rw [cell_of_list h]; rfl
  have c2 : w.cell? ⟨g, 2, none⟩ = some .nilIface := by rw [cell_of_list h]; rfl
  have hb : (c == 0) = false := by rw [beq_eq_false_iff_ne]; exact hc
  have af := assert_fault
  have H := Lib.hid h
  clear h hc
  go_enter Try.func13, Try.ntmps13
  go_wp2_with (go_at_call 43; refine (errorsIs_true g c 0 _ H.out).mono ?_; rintro e w' ⟨rfl, rfl⟩)
  go_ret
  exact ⟨rfl, rfl⟩
theorem is_none (w : World) : Calls Try.prog 13 #[.nilIface, .int .i64 0] w fun e w' => e = .returned (.bool true) ∧ w = w' := by
  go_enter Try.func13, Try.ntmps13
  go_wp2
  go_ret
  exact ⟨rfl, rfl⟩
end Go.Proofs.Ytnaeekjocaecmaa

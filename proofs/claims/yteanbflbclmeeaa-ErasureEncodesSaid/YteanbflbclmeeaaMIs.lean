/- The walks of asking which error one is. -/
import Derived.Test.YteanbflbclmeeaaMCau
import Derived.LaidEql
import Derived.Stop.Asserts
namespace Go.Proofs.Yteanbflbclmeeaa
open Go.RowKit Go.Extern.Stop Go.Stop Go.Extern

theorem typeOf_errno (v : Value) (w : World) : (Extern.ReflectliteType.typeOf #[.iface 55 v]).run Try.prog w = .ok (.iface 91 (.agg #[.pointer (some ⟨1, 55, none⟩)])) w := by kernel_rfl
theorem comparable_errno (w : World) : (callFunc 113 #[.agg #[.pointer (some ⟨1, 55, none⟩)]]).run Try.prog w = .ok (.value (.bool true)) w := by kernel_rfl
theorem method_comparable (v : Value) (w : World) : (Go.method 273 91 v "Comparable").run Try.prog w = .ok (113, v) w := by kernel_rfl
theorem method_is (v : Value) (w : World) : (Go.method 273 56 v "Is").run Try.prog w = .ok (107, v) w := by kernel_rfl
theorem has_is (v : Value) (xT : TypeId) (w : World) : (Instr.typeAssert (.iface 56 v) xT 93 true).run Try.prog w = .ok (.tuple #[.iface 56 v, .bool true]) w := run_typeAssert_hasB Try.underlying93 (by kernel_rfl) v xT w
theorem assert_errno (c : Int) (xT : TypeId) (w : World) : (Instr.typeAssert (.iface 55 (.int .i64 c)) xT 55 true).run Try.prog w = .ok (.tuple #[.int .i64 c, .bool true]) w := by kernel_rfl
theorem assert_fault (v : Value) (xT : TypeId) (w : World) : (Instr.typeAssert (.iface 56 v) xT 56 true).run Try.prog w = .ok (.tuple #[v, .bool true]) w := by kernel_rfl
set_option maxHeartbeats 1000000 in
theorem FaultIs_true (g : Nat) (c a : Int) (w : World) (h : FaultAt g c a w) :
    Calls Try.prog 107 #[.pointer (some ⟨g, 0, none⟩), .iface 55 (.int .i64 c)] w fun e w' => e = .returned (.bool true) ∧ w = w' := by
  have c0 : w.cell? ⟨g, 0, none⟩ = some (.int .i64 c) := by rw [cell_of_list h]; rfl
  have ae := assert_errno c
  clear h
  go_enter Try.func107, Try.ntmps107
  go_wp2
  go_ret
  exact ⟨rfl, rfl⟩
set_option maxHeartbeats 1000000 in
theorem errorsis_true (g : Nat) (c a : Int) (w : World) (h : FaultAt g c a w) :
    Calls Try.prog 36 #[.iface 56 (.pointer (some ⟨g, 0, none⟩)), .iface 55 (.int .i64 c), .bool true] w fun e w' => e = .returned (.bool true) ∧ w = w' := by
  have mI := method_is
  have hI := has_is
  have hty := run_eql_iface_types (P := Try.prog) 56 55 (.pointer (some ⟨g, 0, none⟩)) (.int .i64 c) Try.underlying24 (by decide) w
  have H := Lib.hid h
  clear h
  go_enter Try.func36, Try.ntmps36
  go_wp2_with fail
  refine wp_loop_rounds 1 ?_
  rw [rounds_succ]
  go_wp2_with (go_at_call 107; refine (FaultIs_true g c a _ H.out).mono ?_; rintro e w' ⟨rfl, rfl⟩)
  go_ret
  exact ⟨rfl, rfl⟩
set_option maxHeartbeats 1000000 in
theorem errorsIs_true (g : Nat) (c a : Int) (w : World) (h : FaultAt g c a w) :
    Calls Try.prog 24 #[.iface 56 (.pointer (some ⟨g, 0, none⟩)), .iface 55 (.int .i64 c)] w fun e w' => e = .returned (.bool true) ∧ w = w' := by
  have h8 := @run_callFunc_extern Try.prog 35 _ Extern.ReflectliteType.typeOf Try.func35 (by kernel_rfl) (by kernel_rfl) (by kernel_rfl) (by kernel_rfl)
  have tT := typeOf_errno
  have cT := comparable_errno
  have mR := method_comparable
  have H := Lib.hid h
  clear h
  go_enter Try.func24, Try.ntmps24
  go_wp2_with (go_at_call 36; refine (errorsis_true g c a _ H.out).mono ?_; rintro e w' ⟨rfl, rfl⟩)
  go_ret
  exact ⟨rfl, rfl⟩
set_option maxHeartbeats 1000000 in
theorem is_fault (g : Nat) (c : Int) (hc : c ≠ 0) (w : World) (h : FaultAt g c 0 w) :
    Calls Try.prog 11 #[.iface 56 (.pointer (some ⟨g, 0, none⟩)), .int .i64 c] w fun e w' => e = .returned (.bool true) ∧ w = w' := by
  have c0 : w.cell? ⟨g, 0, none⟩ = some (.int .i64 c) := by rw [cell_of_list h]; rfl
  have c1 : w.cell? ⟨g, 1, none⟩ = some (.int .i64 0) := by rw [cell_of_list h]; rfl
  have c2 : w.cell? ⟨g, 2, none⟩ = some .nilIface := by rw [cell_of_list h]; rfl
  have hb : (c == 0) = false := by rw [beq_eq_false_iff_ne]; exact hc
  have af := assert_fault
  have H := Lib.hid h
  clear h hc
  go_enter Try.func11, Try.ntmps11
  go_wp2_with (go_at_call 24; refine (errorsIs_true g c 0 _ H.out).mono ?_; rintro e w' ⟨rfl, rfl⟩)
  go_ret
  exact ⟨rfl, rfl⟩
theorem is_none (w : World) : Calls Try.prog 11 #[.nilIface, .int .i64 0] w fun e w' => e = .returned (.bool true) ∧ w = w' := by
  go_enter Try.func11, Try.ntmps11
  go_wp2
  go_ret
  exact ⟨rfl, rfl⟩
end Go.Proofs.Yteanbflbclmeeaa

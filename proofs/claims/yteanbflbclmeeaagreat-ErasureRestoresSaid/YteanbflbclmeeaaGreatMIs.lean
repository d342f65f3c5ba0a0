/- The walks of asking which error one is. -/
import Derived.Test.YteanbflbclmeeaaGreatMCau
import Derived.LaidEql
import Derived.Stop.Asserts
namespace Go.Proofs.YteanbflbclmeeaaGreat
open Go.RowKit Go.Extern.Stop Go.Stop Go.Extern

theorem typeOf_errno (v : Value) (w : World) : (Extern.ReflectliteType.typeOf #[.iface 50 v]).run Tryz.prog w = .ok (.iface 119 (.agg #[.pointer (some ⟨1, 50, none⟩)])) w := by kernel_rfl
theorem comparable_errno (w : World) : (callFunc 114 #[.agg #[.pointer (some ⟨1, 50, none⟩)]]).run Tryz.prog w = .ok (.value (.bool true)) w := by kernel_rfl
theorem method_comparable (v : Value) (w : World) : (Go.method 277 119 v "Comparable").run Tryz.prog w = .ok (114, v) w := by kernel_rfl
theorem method_is (v : Value) (w : World) : (Go.method 277 69 v "Is").run Tryz.prog w = .ok (108, v) w := by kernel_rfl
theorem has_is (v : Value) (xT : TypeId) (w : World) : (Instr.typeAssert (.iface 69 v) xT 121 true).run Tryz.prog w = .ok (.tuple #[.iface 69 v, .bool true]) w := run_typeAssert_hasB Tryz.underlying121 (by kernel_rfl) v xT w
theorem assert_errno (c : Int) (xT : TypeId) (w : World) : (Instr.typeAssert (.iface 50 (.int .i64 c)) xT 50 true).run Tryz.prog w = .ok (.tuple #[.int .i64 c, .bool true]) w := by kernel_rfl
theorem assert_fault (v : Value) (xT : TypeId) (w : World) : (Instr.typeAssert (.iface 69 v) xT 69 true).run Tryz.prog w = .ok (.tuple #[v, .bool true]) w := by kernel_rfl
set_option maxHeartbeats 1000000 in
theorem FaultIs_true (g : Nat) (c a : Int) (w : World) (h : FaultAt g c a w) :
    Calls Tryz.prog 108 #[.pointer (some ⟨g, 0, none⟩), .iface 50 (.int .i64 c)] w fun e w' => e = .returned (.bool true) ∧ w = w' := by
  have c0 : w.cell? ⟨g, 0, none⟩ = some (.int .i64 c) := by rw [cell_of_list h]; rfl
  have ae := assert_errno c
  clear h
  go_enter Tryz.func108, Tryz.ntmps108
  go_wp2
  go_ret
  exact ⟨rfl, rfl⟩
set_option maxHeartbeats 1000000 in
theorem errorsis_true (g : Nat) (c a : Int) (w : World) (h : FaultAt g c a w) :
    Calls Tryz.prog 49 #[.iface 69 (.pointer (some ⟨g, 0, none⟩)), .iface 50 (.int .i64 c), .bool true] w fun e w' => e = .returned (.bool true) ∧ w = w' := by
  have mI := method_is
  have hI := has_is
  have hty := run_eql_iface_types (P := Tryz.prog) 69 50 (.pointer (some ⟨g, 0, none⟩)) (.int .i64 c) Tryz.underlying29 (by decide) w
  have H := Lib.hid h
  clear h
  go_enter Tryz.func49, Tryz.ntmps49
  go_wp2_with fail
  refine wp_loop_rounds 1 ?_
  rw [rounds_succ]
  go_wp2_with (go_at_call 108; refine (FaultIs_true g c a _ H.out).mono ?_; rintro e w' ⟨rfl, rfl⟩)
  go_ret
  exact ⟨rfl, rfl⟩
set_option maxHeartbeats 1000000 in
theorem errorsIs_true (g : Nat) (c a : Int) (w : World) (h : FaultAt g c a w) :
    Calls Tryz.prog 30 #[.iface 69 (.pointer (some ⟨g, 0, none⟩)), .iface 50 (.int .i64 c)] w fun e w' => e = .returned (.bool true) ∧ w = w' := by
  have h8 := @run_callFunc_extern Tryz.prog 48 _ Extern.ReflectliteType.typeOf Tryz.func48 (by kernel_rfl) (by kernel_rfl) (by kernel_rfl) (by kernel_rfl)
  have tT := typeOf_errno
  have cT := comparable_errno
  have mR := method_comparable
  have H := Lib.hid h
  clear h
  go_enter Tryz.func30, Tryz.ntmps30
  go_wp2_with (go_at_call 49; refine (errorsis_true g c a _ H.out).mono ?_; rintro e w' ⟨rfl, rfl⟩)
  go_ret
  exact ⟨rfl, rfl⟩
set_option maxHeartbeats 1000000 in
theorem is_fault (g : Nat) (c : Int) (hc : c ≠ 0) (w : World) (h : FaultAt g c 0 w) :
    Calls Tryz.prog 8 #[.iface 69 (.pointer (some ⟨g, 0, none⟩)), .int .i64 c] w fun e w' => e = .returned (.bool true) ∧ w = w' := by
  have c0 : w.cell? ⟨g, 0, none⟩ = some (.int .i64 c) := by rw [cell_of_list h]; rfl
  have c1 : w.cell? ⟨g, 1, none⟩ = some (.int .i64 0) := by rw [cell_of_list h]; rfl
  have c2 : w.cell? ⟨g, 2, none⟩ = some .nilIface := by rw [cell_of_list h]; rfl
  have hb : (c == 0) = false := by rw [beq_eq_false_iff_ne]; exact hc
  have af := assert_fault
  have H := Lib.hid h
  clear h hc
  go_enter Tryz.func8, Tryz.ntmps8
  go_wp2_with (go_at_call 30; refine (errorsIs_true g c 0 _ H.out).mono ?_; rintro e w' ⟨rfl, rfl⟩)
  go_ret
  exact ⟨rfl, rfl⟩
theorem is_none (w : World) : Calls Tryz.prog 8 #[.nilIface, .int .i64 0] w fun e w' => e = .returned (.bool true) ∧ w = w' := by
  go_enter Tryz.func8, Tryz.ntmps8
  go_wp2
  go_ret
  exact ⟨rfl, rfl⟩
end Go.Proofs.YteanbflbclmeeaaGreat

/- What the statements ask behind a crash: which error one is that wraps the disk's; whether two lists are the same. -/
import Derived.Test.YtafhkpmfcmlbfaaGreatDoorJFuse2
import Derived.Test.YtafhkpmfcmlbfaaGreatDoorJHelp
namespace Go.Proofs.YtafhkpmfcmlbfaaGreatDoor
open Go.RowKit Go.Extern.Stop Go.Stop Go.Extern

set_option maxHeartbeats 1000000 in
theorem FaultIs_cell (g : Nat) (c : Int) (w : World) (c0 : w.cell? ⟨g, 0, none⟩ = some (.int .i64 c)) :
    Calls Tryz.prog 148 #[.pointer (some ⟨g, 0, none⟩), .iface 67 (.int .i64 c)] w fun e w' => e = .returned (.bool true) ∧ w = w' := by
  have ae := assert_errno c
  go_enter Tryz.func148, Tryz.ntmps148
  go_wp2
  go_ret
  exact ⟨rfl, rfl⟩
set_option maxHeartbeats 1000000 in
theorem errorsis_cell (g : Nat) (c : Int) (w : World) (h : w.cell? ⟨g, 0, none⟩ = some (.int .i64 c)) :
    Calls Tryz.prog 71 #[.iface 108 (.pointer (some ⟨g, 0, none⟩)), .iface 67 (.int .i64 c), .bool true] w fun e w' => e = .returned (.bool true) ∧ w = w' := by
  have mI := method_is
  have hI := has_is
  have hty := run_eql_iface_types (P := Tryz.prog) 108 67 (.pointer (some ⟨g, 0, none⟩)) (.int .i64 c) Tryz.underlying37 (by decide) w
  have H := Lib.hid h
  clear h
  go_enter Tryz.func71, Tryz.ntmps71
  go_wp2_with fail
  refine wp_loop_rounds 1 ?_
  rw [rounds_succ]
  go_wp2_with (go_at_call 148; refine (FaultIs_cell g c _ H.out).mono ?_; rintro e w' ⟨rfl, rfl⟩)
  go_ret
  exact ⟨rfl, rfl⟩
set_option maxHeartbeats 1000000 in
theorem errorsIs_cell (g : Nat) (c : Int) (w : World) (h : w.cell? ⟨g, 0, none⟩ = some (.int .i64 c)) :
    Calls Tryz.prog 36 #[.iface 108 (.pointer (some ⟨g, 0, none⟩)), .iface 67 (.int .i64 c)] w fun e w' => e = .returned (.bool true) ∧ w = w' := by
  have h8 := @run_callFunc_extern Tryz.prog 70 _ Extern.ReflectliteType.typeOf Tryz.func70 (by kernel_rfl) (by kernel_rfl) (by kernel_rfl) (by kernel_rfl)
  have tT := typeOf_errno
  have cT := comparable_errno
  have mR := method_comparable
  have H := Lib.hid h
  clear h
  go_enter Tryz.func36, Tryz.ntmps36
  go_wp2_with (go_at_call 71; refine (errorsis_cell g c _ H.out).mono ?_; rintro e w' ⟨rfl, rfl⟩)
  go_ret
  exact ⟨rfl, rfl⟩
theorem WrapAt.is {g g' : Nat} {w : World} (h : WrapAt g g' w) :
    Calls Tryz.prog 36 #[.iface 108 (.pointer (some ⟨g', 0, none⟩)), .iface 67 (.int .i64 10)] w fun e w' => e = .returned (.bool true) ∧ w = w' :=
  errorsIs_cell g' 10 w (by rw [cell_of_list h.1]; rfl)
end Go.Proofs.YtafhkpmfcmlbfaaGreatDoor

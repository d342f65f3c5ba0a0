/- What the statements ask behind a crash: which error one is that wraps the disk's; whether two lists are the same. -/
import Derived.Test.YtfancfladdecjaaGreatDoorJFuse2
import Derived.Test.YtfancfladdecjaaGreatDoorJHelp
namespace Go.Proofs.YtfancfladdecjaaGreatDoor
open Go.RowKit Go.Extern.Stop Go.Stop Go.Extern

set_option maxHeartbeats 1000000 in
theorem FaultIs_cell (g : Nat) (c : Int) (w : World) (c0 : w.cell? ⟨g, 0, none⟩ = some (.int .i64 c)) :
    Calls Tryz.prog 145 #[.pointer (some ⟨g, 0, none⟩), .iface 67 (.int .i64 c)] w fun e w' => e = .returned (.bool true) ∧ w = w' := by
  have ae := assert_errno c
  go_enter Tryz.func145, Tryz.ntmps145
  go_wp2
  go_ret
  exact ⟨rfl, rfl⟩
set_option maxHeartbeats 1000000 in
theorem errorsis_cell (g : Nat) (c : Int) (w : World) (h : w.cell? ⟨g, 0, none⟩ = some (.int .i64 c)) :
    Calls Tryz.prog 68 #[.iface 106 (.pointer (some ⟨g, 0, none⟩)), .iface 67 (.int .i64 c), .bool true] w fun e w' => e = .returned (.bool true) ∧ w = w' := by
  have mI := method_is
  have hI := has_is
  have hty := run_eql_iface_types (P := Tryz.prog) 106 67 (.pointer (some ⟨g, 0, none⟩)) (.int .i64 c) Tryz.underlying37 (by decide) w
  have H := Lib.hid h
  clear h
  go_enter Tryz.func68, Tryz.ntmps68
  go_wp2_with fail
  refine wp_loop_rounds 1 ?_
  rw [rounds_succ]
  go_wp2_with (go_at_call 145; refine (FaultIs_cell g c _ H.out).mono ?_; rintro e w' ⟨rfl, rfl⟩)
  go_ret
  exact ⟨rfl, rfl⟩
set_option maxHeartbeats 1000000 in
theorem errorsIs_cell (g : Nat) (c : Int) (w : World) (h : w.cell? ⟨g, 0, none⟩ = some (.int .i64 c)) :
    Calls Tryz.prog 33 #[.iface 106 (.pointer (some ⟨g, 0, none⟩)), .iface 67 (.int .i64 c)] w fun e w' => e = .returned (.bool true) ∧ w = w' := by
  have h8 := @run_callFunc_extern Tryz.prog 67 _ Extern.ReflectliteType.typeOf Tryz.func67 (by kernel_rfl) (by kernel_rfl) (by kernel_rfl) (by kernel_rfl)
  have tT := typeOf_errno
  have cT := comparable_errno
  have mR := method_comparable
  have H := Lib.hid h
  clear h
  go_enter Tryz.func33, Tryz.ntmps33
  go_wp2_with (go_at_call 68; refine (errorsis_cell g c _ H.out).mono ?_; rintro e w' ⟨rfl, rfl⟩)
  go_ret
  exact ⟨rfl, rfl⟩
theorem WrapAt.is {g g' : Nat} {w : World} (h : WrapAt g g' w) :
    Calls Tryz.prog 33 #[.iface 106 (.pointer (some ⟨g', 0, none⟩)), .iface 67 (.int .i64 10)] w fun e w' => e = .returned (.bool true) ∧ w = w' :=
  errorsIs_cell g' 10 w (by rw [cell_of_list h.1]; rfl)
end Go.Proofs.YtfancfladdecjaaGreatDoor
namespace Go.Proofs.YtfancfladdecjaaGreatDoor
open Go.RowKit

theorem same_diff (v1 v2 : Value) (l1 l2 : List (List UInt8)) (hne : l1.length ≠ l2.length) (w : World) (h1 : Texts v1 l1 w) (h2 : Texts v2 l2 w) :
    Calls Tryz.prog 26 #[v1, v2] w fun e w' => e = .returned (.bool false) ∧ Below w.heap.size w w' := by
  obtain ⟨b1, cap1, rfl⟩ := h1.slice
  obtain ⟨b2, cap2, rfl⟩ := h2.slice
  have hn : ¬ (l1.length : Int) = (l2.length : Int) := by omega
  clear h1 h2
  go_enter Tryz.func26, Tryz.ntmps26
  go_wp2
  go_ret
  exact ⟨rfl, Below.refl _ _⟩
theorem eq_of_getD {l1 l2 : List (List UInt8)} (hl : l1.length = l2.length) (h : ∀ i, i < l1.length → l1.getD i [] = l2.getD i []) : l1 = l2 := by
  apply List.ext_getElem hl
  intro i h1 h2
  have := h i h1
  rw [List.getD, List.getElem?_eq_getElem h1, List.getD, List.getElem?_eq_getElem h2] at this
  exact this
set_option maxRecDepth 100000 in
set_option maxHeartbeats 2000000 in
theorem same_len (v1 v2 : Value) (l1 l2 : List (List UInt8)) (hll : l1.length ≤ 1000000) (hl : l2.length = l1.length) (w : World) (h1 : Texts v1 l1 w) (h2 : Texts v2 l2 w) :
    Calls Tryz.prog 26 #[v1, v2] w fun e w' => ∃ b : Bool, e = .returned (.bool b) ∧ (b = true ↔ l1 = l2) ∧ Below w.heap.size w w' := by
  obtain ⟨b1, cap1, rfl⟩ := h1.slice
  obtain ⟨b2, cap2, rfl⟩ := h2.slice
  rw [hl]
  have H1 := Lib.hid h1
  have H2 := Lib.hid h2
  have HL := Lib.hid hl
  clear h1 h2 hl
  go_enter Tryz.func26, Tryz.ntmps26
  go_wp2_with fail
  go_loopw [5] (fun iv wr => ∃ k : Nat, k ≤ l1.length ∧ iv = .int .i64 k ∧ Hid (∀ i, i < k → l1.getD i [] = l2.getD i []) ∧ Below w.heap.size w wr) (fun iv _ => l1.length - (intOf iv).toNat)
  case atStart => exact ⟨0, by omega, rfl, Lib.hid (fun i hi => by omega), Below.refl _ _⟩
  case round =>
    obtain ⟨k, hk, rfl, HE, hB⟩ := hrel
    by_cases hlt : k < l1.length
    · rcases H1.out with ⟨_, h0⟩ | ⟨g1, o1, c1, hv1, hg1, hc1⟩
      · rw [h0] at hlt; simp at hlt
      rcases H2.out with ⟨_, h0⟩ | ⟨g2, o2, c2, hv2, hg2, hc2⟩
      · have := HL.out; rw [h0] at this; simp at this; omega
      injection hv1 with hv1 _ hv3
      injection hv2 with hv4 _ hv6
      subst hv1 hv4
      have e1 := (hB.cell (p := ⟨g1, o1 + k, none⟩) hg1).trans (hc1 k hlt)
      have e2 := (hB.cell (p := ⟨g2, o2 + k, none⟩) hg2).trans (hc2 k (by rw [HL.out]; exact hlt))
      unfold strv at e1 e2
      have HB := Lib.hid hB
      obtain ⟨x, hx⟩ : ∃ x, x = bs (l1.getD k []) := ⟨_, rfl⟩
      obtain ⟨y, hy⟩ : ∃ y, y = bs (l2.getD k []) := ⟨_, rfl⟩
      by_cases hq : l1.getD k [] = l2.getD k []
      · have hxy : y = x := by rw [hx, hy, hq]
        rw [← hx] at e1
        rw [← hy, hxy] at e2
        have d1 : wr.drew.cell? ⟨g1, o1 + k, none⟩ = some (.string x) := e1
        have d2 : wr.drew.cell? ⟨g2, o2 + k, none⟩ = some (.string x) := e2
        have HQ := Lib.hid hq
        clear hB hx hy hxy hc1 hc2 hv3 hv6 hq
        go_wp2_with fail
        go_region
        all_goals
          go_wp2_with fail
          go_roundw
          case rel => exact ⟨k + 1, by omega, by go_num, Lib.hid (fun i hi => by
            by_cases h : i < k
            · exact HE.out i h
            · rw [show i = k by omega]; exact HQ.out), HB.out.drew⟩
          case measure => simp [intOf]; omega
      · have hxy : (x.toList == y.toList) = false := by
          rw [beq_eq_false_iff_ne, ByteArray.toList_eq, ByteArray.toList_eq, hx, hy, bs_list, bs_list]
          exact hq
        rw [← hx] at e1
        rw [← hy] at e2
        have d1 : wr.drew.cell? ⟨g1, o1 + k, none⟩ = some (.string x) := e1
        have d2 : wr.drew.cell? ⟨g2, o2 + k, none⟩ = some (.string y) := e2
        have HQ := Lib.hid (show ¬ l1 = l2 from fun e => hq (by rw [e]))
        clear hB hx hy hc1 hc2 hv3 hv6 hq
        go_wp2_with fail
        go_region
        all_goals
          go_wp2_with fail
          go_ret
          exact ⟨false, rfl, by simp [HQ.out], HB.out.drew⟩
    · have HB := Lib.hid hB
      have hkl : k = l1.length := by omega
      clear hB
      go_wp2_with fail
      go_ret
      exact ⟨true, rfl, by simp; exact eq_of_getD HL.out.symm (fun i hi => HE.out i (by omega)), HB.out⟩
theorem same_any (v1 v2 : Value) (l1 l2 : List (List UInt8)) (hll : l1.length ≤ 1000000) (w : World) (h1 : Texts v1 l1 w) (h2 : Texts v2 l2 w) :
    Calls Tryz.prog 26 #[v1, v2] w fun e w' => ∃ b : Bool, e = .returned (.bool b) ∧ (b = true ↔ l1 = l2) ∧ Below w.heap.size w w' := by
  by_cases hl : l2.length = l1.length
  · exact same_len v1 v2 l1 l2 hll hl w h1 h2
  · refine (same_diff v1 v2 l1 l2 (fun e => hl e.symm) w h1 h2).mono ?_
    rintro e w' ⟨rfl, hb⟩
    exact ⟨false, rfl, by simp; intro e; exact hl (by rw [e]), hb⟩
end Go.Proofs.YtfancfladdecjaaGreatDoor

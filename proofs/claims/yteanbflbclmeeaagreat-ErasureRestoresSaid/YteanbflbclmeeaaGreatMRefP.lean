/- The document's own Apply. -/
import Derived.Test.YteanbflbclmeeaaGreatMChC
import Derived.Test.YteanbflbclmeeaaGreatMRefB
import Derived.Test.YteanbflbclmeeaaGreatMRefA
namespace Go.Proofs.YteanbflbclmeeaaGreat
open Go.RowKit

/-- The box of a matrix at a call's beginning. -/
structure RA (r c : Int) (a0 : Option Addr) (len cap : Nat) (w0 v : World) : Prop where
  box : v.heap[w0.heap.size]? = some (.cells [Value.int .i64 r, .int .i64 c, .slice a0 len cap].toArray 62 (0, 0))
  old : Below w0.heap.size w0 v
theorem RA.new (r c : Int) (a0 : Option Addr) (len cap : Nat) (w : World) : RA r c a0 len cap w (w.alloc (.cells #[.int .i64 r, .int .i64 c, .slice a0 len cap] 62)) := ⟨heap_alloc_new _ _, below_alloc _ _⟩
theorem RA.below {r c : Int} {a0 : Option Addr} {len cap : Nat} {w0 v v' : World} (h : RA r c a0 len cap w0 v) (hb : Below v.heap.size v v') : RA r c a0 len cap w0 v' := ⟨(hb.block _ (lt_of_heap h.box)).trans h.box, h.old.trans (hb.mono h.old.size)⟩
theorem RA.drewN {r c : Int} {a0 : Option Addr} {len cap : Nat} {w0 v : World} (h : RA r c a0 len cap w0 v) (m : Nat) : RA r c a0 len cap w0 (v.drewN m) := h.below (below_drewN (Below.refl _ _) m)
set_option maxHeartbeats 1000000 in
theorem rApply_bad (r c : Int) (a0 : Option Addr) (len cap : Nat) (s0 : Option Addr) (n capn : Nat) (hr : rightB r c len = false) (w : World) :
    Calls Tryz.prog 28 #[.agg #[.int .i64 r, .int .i64 c, .slice a0 len cap], .slice s0 n capn] w fun e w' => e = .returned (.tuple #[.slice none 0 0, .int .i64 1]) ∧ Below w.heap.size w w' := by
  obtain ⟨wa, hwa⟩ : ∃ wa, wa = w.alloc (.cells #[.int .i64 r, .int .i64 c, .slice a0 len cap] 62) := ⟨_, rfl⟩
  have R0 : Hid (RA r c a0 len cap w wa) := Lib.hid (by rw [hwa]; exact RA.new _ _ _ _ _ _)
  have HWA := Lib.hid hwa
  obtain ⟨d0, d1, d2⟩ := heap_cell0 R0.out.box
  clear hwa
  go_enter Tryz.func28, Tryz.ntmps28
  go_wp2_with fail
  rw [← HWA.out]
  go_wp2_with fail
  refine (rRight_any r c a0 len cap _).mono ?_
  rintro e w1 ⟨rfl, hb1⟩
  rw [hr]
  have R1 := Lib.hid (R0.out.below hb1)
  clear hb1 R0 d0 d1 d2
  go_wp2_with fail
  go_ret2
  exact ⟨rfl, R1.out.old⟩
set_option maxHeartbeats 1000000 in
theorem rApply_len (rn cn : Nat) (a0 : Option Addr) (len cap : Nat) (s0 : Option Addr) (n capn : Nat) (hr : rightB rn cn len = true) (hne : n ≠ cn) (w : World) :
    Calls Tryz.prog 28 #[.agg #[.int .i64 rn, .int .i64 cn, .slice a0 len cap], .slice s0 n capn] w fun e w' => e = .returned (.tuple #[.slice none 0 0, .int .i64 19]) ∧ Below w.heap.size w w' := by
  have hnb := nat_ne_B (i := n) (p := cn) hne
  obtain ⟨wa, hwa⟩ : ∃ wa, wa = w.alloc (.cells #[.int .i64 rn, .int .i64 cn, .slice a0 len cap] 62) := ⟨_, rfl⟩
  have R0 : Hid (RA rn cn a0 len cap w wa) := Lib.hid (by rw [hwa]; exact RA.new _ _ _ _ _ _)
  have HWA := Lib.hid hwa
  obtain ⟨d0, d1, d2⟩ := heap_cell0 R0.out.box
  clear hwa hne
  go_enter Tryz.func28, Tryz.ntmps28
  go_wp2_with fail
  rw [← HWA.out]
  go_wp2_with fail
  refine (rRight_any rn cn a0 len cap _).mono ?_
  rintro e w1 ⟨rfl, hb1⟩
  rw [hr]
  have R1 := Lib.hid (R0.out.below hb1)
  clear hb1 R0 d0 d1 d2
  obtain ⟨d0, d1, d2⟩ := heap_cell0 R1.out.box
  go_wp2_with fail
  go_ret2
  exact ⟨rfl, R1.out.old⟩
set_option maxRecDepth 20000 in
set_option maxHeartbeats 2000000 in
theorem rApply_one (rn cn : Nat) (a0 : Option Addr) (len cap hb ho capn k : Nat) (f : Nat → ByteArray) (hr : rightB rn cn len = true) (hcn : cn ≤ 255) (hk : k < cn) (hne : (f k).size ≠ (f 0).size) (hm : ∀ j, j < k → (f j).size = (f 0).size) (w : World) (h : Texts hb ho cn f w) (hbl : hb < w.heap.size) :
    Calls Tryz.prog 28 #[.agg #[.int .i64 rn, .int .i64 cn, .slice a0 len cap], .slice (some ⟨hb, ho, none⟩) cn capn] w fun e w' => e = .returned (.tuple #[.slice none 0 0, .int .i64 19]) ∧ Below w.heap.size w w' := by
  have hnb := nat_eq_B (i := cn) (p := cn) rfl
  have H := Lib.hid h
  have HM := Lib.hid hm
  have HNE := Lib.hid hne
  obtain ⟨wa, hwa⟩ : ∃ wa, wa = w.alloc (.cells #[.int .i64 rn, .int .i64 cn, .slice a0 len cap] 62) := ⟨_, rfl⟩
  have R0 : Hid (RA rn cn a0 len cap w wa) := Lib.hid (by rw [hwa]; exact RA.new _ _ _ _ _ _)
  have HWA := Lib.hid hwa
  obtain ⟨d0, d1, d2⟩ := heap_cell0 R0.out.box
  clear hwa h hm hne
  go_enter Tryz.func28, Tryz.ntmps28
  go_wp2_with fail
  rw [← HWA.out]
  go_wp2_with fail
  refine (rRight_any rn cn a0 len cap _).mono ?_
  rintro e w1 ⟨rfl, hb1⟩
  rw [hr]
  have R1 := Lib.hid (R0.out.below hb1)
  clear hb1 R0 d0 d1 d2
  obtain ⟨d0, d1, d2⟩ := heap_cell0 R1.out.box
  go_wp2_with fail
  clear d0 d1 d2
  go_loopw [7] (fun iv wr => ∃ i : Nat, i ≤ k ∧ iv = .int .i64 i ∧ RA rn cn a0 len cap w wr) (fun iv _ => cn - (intOf iv).toNat)
  case atStart => exact ⟨0, by omega, rfl, R1.out⟩
  case round =>
    clear R1
    obtain ⟨i, hi, rfl, hR⟩ := hrel
    have HR := Lib.hid hR
    clear hR
    have hlt : i < cn := by omega
    obtain ⟨x, hx⟩ : ∃ x, x = f i := ⟨_, rfl⟩
    obtain ⟨y, hy⟩ : ∃ y, y = f 0 := ⟨_, rfl⟩
    have c0 : wr.cell? ⟨hb, ho + i, none⟩ = some (.string x) := by rw [hx]; exact (HR.out.old.cell (p := ⟨hb, ho + i, none⟩) hbl).trans (H.out i hlt)
    have c1 : wr.cell? ⟨hb, ho, none⟩ = some (.string y) := by rw [hy]; exact (HR.out.old.cell (p := ⟨hb, ho, none⟩) hbl).trans (H.out 0 (by omega))
    by_cases hik : i = k
    · have hb := nat_ne_B (i := x.size) (p := y.size) (by rw [hx, hy, hik]; exact HNE.out)
      clear hx hy hik
      go_wp2_with fail
      go_quiet (fail)
      go_wp2_with fail
      go_ret2
      exact ⟨rfl, by first | exact HR.out.old | exact below_drewN HR.out.old _⟩
    · have hb := nat_eq_B (i := x.size) (p := y.size) (by rw [hx, hy, HM.out i (by omega)])
      clear hx hy
      go_wp2_with fail
      go_quiet (fail)
      go_wp2_with fail
      go_roundw
      case rel => exact ⟨i + 1, by omega, by go_num, by first | exact HR.out | exact HR.out.drewN _⟩
      case measure => simp [intOf]; omega
end Go.Proofs.YteanbflbclmeeaaGreat

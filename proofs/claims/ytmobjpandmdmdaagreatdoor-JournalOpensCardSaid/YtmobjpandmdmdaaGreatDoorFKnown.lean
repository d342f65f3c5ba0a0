/- The walk of the chapter's examples. -/
import Derived.Test.YtmobjpandmdmdaaGreatDoorFRec
namespace Go.Proofs.YtmobjpandmdmdaaGreatDoor
open Go.RowKit

theorem FaultAt.below {g : Nat} {c a : Int} {w w' : World} (h : FaultAt g c a w) (hb : Below w.heap.size w w') : FaultAt g c a w' := (hb.block g h.lt).trans h
theorem Pack_ex (w : World) : Calls Tryz.prog 83 #[.int .i64 7, .int .i64 1, .string ⟨#[97, 98]⟩] w fun r w' => (∃ q : ByteArray, r = .returned (.tuple #[.string q, .nilIface]) ∧ IsRec q 7 1 [97, 98] ∧ q.size = 64) ∧ Below w.heap.size w w' := by
  refine (Pack_ok 7 1 ⟨#[97, 98]⟩ (by omega) (by omega) (by decide) w).mono ?_
  rintro r w' ⟨rfl, hb⟩
  have hz : (bs (Fr.record 7 1 [97, 98])).size = 64 := by rw [bs_size, Fr.length_record]; rfl
  exact ⟨⟨_, rfl, isRec 7 1 [97, 98] [] (by decide) _ (by rw [bs_list, List.append_nil]) (by rw [show (⟨#[97, 98]⟩ : ByteArray).data.toList = [97, 98] from rfl, hz]; omega), hz⟩, hb⟩
theorem Unpack_ex (q : ByteArray) (h : IsRec q 7 1 [97, 98]) (w : World) : Calls Tryz.prog 77 #[.string q, .int .i64 7, .int .i64 1] w fun r w' => r = .returned (.tuple #[.string ⟨#[97, 98]⟩, .int .i64 64, .nilIface]) ∧ Below w.heap.size w w' := by
  have := Unpack_rec q 7 1 [97, 98] (by omega) (by omega) h w
  rw [← bs_eq] at this
  exact this
theorem Unpack_ex2 (q : ByteArray) (h : IsRec q 7 1 [97, 98]) (w : World) : Calls Tryz.prog 77 #[.string q, .int .i64 7, .int .i64 2] w (Refused 20 0 (fun v => .tuple #[.string ⟨#[]⟩, .int .i64 0, v]) w) :=
  Unpack_head q 7 2 2 (by omega) (by omega) h.looks (by rw [h.head]; exact ex_head) w
theorem Sum_9 (w : World) : Calls Tryz.prog 99 #[.string ⟨#[49, 50, 51, 52, 53, 54, 55, 56, 57]⟩] w fun e w' => e = .returned (.int .u32 3808858755) ∧ w = w' := by
  have := Sum_any ⟨#[49, 50, 51, 52, 53, 54, 55, 56, 57]⟩ (by decide) w
  rw [ex_sum] at this
  exact this
theorem More_ex (w : World) : Calls Tryz.prog 98 #[.int .u32 (Fr.sum [49, 50, 51, 52]).toNat, .string ⟨#[53, 54, 55, 56, 57]⟩] w fun e w' => e = .returned (.int .u32 3808858755) ∧ w = w' := by
  have := More_any (Fr.sum [49, 50, 51, 52]) ⟨#[53, 54, 55, 56, 57]⟩ (by decide) w
  rw [ex_more] at this
  exact this
theorem Sum_4 (w : World) : Calls Tryz.prog 99 #[.string ⟨#[49, 50, 51, 52]⟩] w fun e w' => e = .returned (.int .u32 (Fr.sum [49, 50, 51, 52]).toNat) ∧ w = w' := Sum_any ⟨#[49, 50, 51, 52]⟩ (by decide) w
theorem row_below {g : Nat} {u v : Value} {w w' : World} (h : g < w.heap.size ∧ w.cell? ⟨g, 0, none⟩ = some u ∧ w.cell? ⟨g, 1, none⟩ = some v) (hb : Below w.heap.size w w') :
    g < w'.heap.size ∧ w'.cell? ⟨g, 0, none⟩ = some u ∧ w'.cell? ⟨g, 1, none⟩ = some v :=
  ⟨by have := hb.size; omega, (hb.cell (p := ⟨g, 0, none⟩) h.1).trans h.2.1, (hb.cell (p := ⟨g, 1, none⟩) h.1).trans h.2.2⟩
end Go.Proofs.YtmobjpandmdmdaaGreatDoor

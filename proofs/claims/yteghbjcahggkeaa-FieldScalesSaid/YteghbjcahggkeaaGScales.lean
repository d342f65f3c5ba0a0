/- The walk of FieldScales. -/
import Derived.Test.YteghbjcahggkeaaGKnown
namespace Go.Proofs.Yteghbjcahggkeaa
open Go.RowKit

@[irreducible] def scS (p q : ByteArray) (t : UInt8) : ByteArray := if q.size = p.size then scaled p q t else .empty
@[irreducible] def scB (p q : ByteArray) : Bool := decide (q.size = p.size)
theorem Scale_all (p q : ByteArray) (t : UInt8) (hp : p.size ≤ 5000) (w : World) :
    Calls Try.prog 20 #[.string p, .string q, .int .u8 t.toNat] w fun e w' => e = .returned (.tuple #[.string (scS p q t), .bool (scB p q)]) ∧ Below w.heap.size w w' := by
  unfold scS scB
  by_cases h : q.size = p.size
  · rw [if_pos h, decide_eq_true h]; exact Scale_yes p q t h (by omega) w
  · rw [if_neg h, decide_eq_false h]; exact Scale_no p q t (fun e => h e.symm) w
theorem rScale_all (p q : ByteArray) (t : UInt8) (hp : p.size ≤ 5000) (w : World) :
    Calls Try.prog 21 #[.string p, .string q, .int .u8 t.toNat] w fun e w' => e = .returned (.tuple #[.string (scS p q t), .bool (scB p q)]) ∧ Below w.heap.size w w' := by
  unfold scS scB
  by_cases h : q.size = p.size
  · rw [if_pos h, decide_eq_true h]; exact rScale_yes p q t h (by omega) w
  · rw [if_neg h, decide_eq_false h]; exact rScale_no p q t (fun e => h e.symm) w
theorem cut_size (s : ByteArray) : (s.extract 0 5000).size ≤ 5000 := by rw [ByteArray.size_extract]; omega
set_option maxRecDepth 100000 in
set_option maxHeartbeats 2000000 in
theorem Scales_walk (to of : ByteArray) (t : UInt8) (h1 : to.size ≤ 300000000000000) (h2 : of.size ≤ 300000000000000) (w : World) : Calls Try.prog 4 #[.string to, .string of, .int .u8 t.toNat] w fun e w' => e = .returned (.bool true) ∧ Below w.heap.size w w' := by
  go_enter Try.func4, Try.ntmps4
  go_wp2_with fail
  refine (known_any _).mono ?_
  rintro e w1 ⟨rfl, hb1⟩
  have HB1 := Lib.hid hb1
  clear hb1
  go_wp2_with fail
  all_goals
    refine (Scale_all _ _ _ (by first | exact cut_size _ | omega) _).mono ?_
    rintro e w2 ⟨rfl, hb2⟩
    have HB2 := Lib.hid (HB1.out.trans (hb2.mono HB1.out.size))
    clear hb2
    go_wp2_with fail
    refine (rScale_all _ _ _ (by first | exact cut_size _ | omega) _).mono ?_
    rintro e w3 ⟨rfl, hb3⟩
    have HB3 := Lib.hid (HB2.out.trans (hb3.mono HB2.out.size))
    clear hb3
    go_wp2_with fail
    go_ret
    exact ⟨rfl, HB3.out⟩
end Go.Proofs.Yteghbjcahggkeaa

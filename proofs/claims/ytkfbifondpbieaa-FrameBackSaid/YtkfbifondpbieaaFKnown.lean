/- The walk of the chapter's examples. -/
import Derived.Test.YtkfbifondpbieaaFRec
namespace Go.Proofs.Ytkfbifondpbieaa
open Go.RowKit

theorem FaultAt.below {g : Nat} {c a : Int} {w w' : World} (h : FaultAt g c a w) (hb : Below w.heap.size w w') : FaultAt g c a w' := (hb.block g h.lt).trans h
theorem Num_258 (w : World) : Calls Try.prog 23 #[.int .i64 258] w fun e w' => e = .returned (.tuple #[.string ⟨#[0, 0, 1, 2]⟩, .nilIface]) ∧ Below w.heap.size w w' := by
  have := Num_ok 258 (by omega) w
  rw [ex_num, ← bs_eq] at this
  exact this
theorem List_ex (g cap : Nat) (w : World) (h0 : w.cell? ⟨g, 0, none⟩ = some (.string ⟨#[97]⟩)) (h1 : w.cell? ⟨g, 1, none⟩ = some (.string ⟨#[]⟩)) (hg : g < w.heap.size) :
    Calls Try.prog 20 #[.slice (some ⟨g, 0, none⟩) 2 cap] w fun e w' => (∃ q : ByteArray, e = .returned (.tuple #[.string q, .nilIface]) ∧ q.data.toList = [0, 0, 0, 2, 0, 0, 0, 1, 97, 0, 0, 0, 0] ∧ q.size = 13) ∧ Below w.heap.size w w' := by
  refine (List_ok (some ⟨g, 0, none⟩) g 2 cap [[97], []] (by rw [ex_list]; decide) w ⟨rfl, Or.inr ⟨rfl, hg⟩, fun i hi => ?_⟩).mono ?_
  · match i, hi with
    | 0, _ => rw [h0]; unfold strv; rw [← bs_eq]; rfl
    | 1, _ => rw [h1]; unfold strv; rw [← bs_eq]; rfl
  · rintro e w' ⟨rfl, hb⟩
    refine ⟨⟨_, rfl, by rw [bs_list, ex_list], ?_⟩, hb⟩
    rw [bs_size, ex_list]; rfl
theorem Split_ex (q : ByteArray) (hq : q.data.toList = [0, 0, 0, 2, 0, 0, 0, 1, 97, 0, 0, 0, 0]) (w : World) :
    Calls Try.prog 21 #[.string q] w fun e w' => (∃ g cap, e = .returned (.tuple #[.slice (some ⟨g, 0, none⟩) 2 cap, .nilIface]) ∧ g < w'.heap.size ∧ w'.cell? ⟨g, 0, none⟩ = some (.string ⟨#[97]⟩) ∧ w'.cell? ⟨g, 1, none⟩ = some (.string ⟨#[]⟩)) ∧ Below w.heap.size w w' := by
  refine (Split_any q (by rw [← size_toList, hq]; decide) w).mono ?_
  rintro e w' (⟨p, h, _⟩ | ⟨ts, v, h, rfl, hown, hb⟩)
  · rw [hq, ex_split] at h; cases h
  · rw [hq, ex_split] at h
    injection h with h
    subst h
    rcases hown.2 with ⟨_, h0⟩ | ⟨g, cap, cur, hv, _, hg, _⟩
    · cases h0
    · subst hv
      refine ⟨⟨g, cap, rfl, lt_of_heap hg, ?_, ?_⟩, hb⟩
      · rw [hown.cellAt 0 (by decide)]; simp only [List.map_cons, List.getElem?_cons_zero]; unfold strv; rw [← bs_eq]
      · rw [hown.cellAt 1 (by decide)]; simp only [List.map_cons, List.getElem?_cons_succ, List.getElem?_cons_zero]; unfold strv; rw [← bs_eq]
theorem Split_ex2 (q : ByteArray) (hq : q.data.toList = [0, 0, 0, 2, 0, 0, 0, 1, 97, 0, 0, 0, 0]) (w : World) :
    Calls Try.prog 21 #[.string (q ++ ⟨#[120]⟩)] w (Refused 20 13 (fun v => .tuple #[.slice none 0 0, v]) w) := by
  have hq2 : (q ++ ⟨#[120]⟩ : ByteArray).data.toList = [0, 0, 0, 2, 0, 0, 0, 1, 97, 0, 0, 0, 0, 120] := by
    rw [show (q ++ ⟨#[120]⟩ : ByteArray).data.toList = q.data.toList ++ [120] by simp, hq]; rfl
  refine (Split_any _ (by rw [← size_toList, hq2]; decide) w).mono ?_
  rintro e w' (⟨p, h, hr⟩ | ⟨ts, v, h, _⟩)
  · rw [hq2, ex_left] at h
    injection h with h
    subst h
    exact hr
  · rw [hq2, ex_left] at h; cases h
theorem Pack_ex (w : World) : Calls Try.prog 17 #[.int .i64 7, .int .i64 1, .string ⟨#[97, 98]⟩] w fun r w' => (∃ q : ByteArray, r = .returned (.tuple #[.string q, .nilIface]) ∧ IsRec q 7 1 [97, 98] ∧ q.size = 64) ∧ Below w.heap.size w w' := by
  refine (Pack_ok 7 1 ⟨#[97, 98]⟩ (by omega) (by omega) (by decide) w).mono ?_
  rintro r w' ⟨rfl, hb⟩
  have hz : (bs (Fr.record 7 1 [97, 98])).size = 64 := by rw [bs_size, Fr.length_record]; rfl
  exact ⟨⟨_, rfl, isRec 7 1 [97, 98] [] (by decide) _ (by rw [bs_list, List.append_nil]) (by rw [show (⟨#[97, 98]⟩ : ByteArray).data.toList = [97, 98] from rfl, hz]; omega), hz⟩, hb⟩
theorem Unpack_ex (q : ByteArray) (h : IsRec q 7 1 [97, 98]) (w : World) : Calls Try.prog 22 #[.string q, .int .i64 7, .int .i64 1] w fun r w' => r = .returned (.tuple #[.string ⟨#[97, 98]⟩, .int .i64 64, .nilIface]) ∧ Below w.heap.size w w' := by
  have := Unpack_rec q 7 1 [97, 98] (by omega) (by omega) h w
  rw [← bs_eq] at this
  exact this
theorem Unpack_ex2 (q : ByteArray) (h : IsRec q 7 1 [97, 98]) (w : World) : Calls Try.prog 22 #[.string q, .int .i64 7, .int .i64 2] w (Refused 20 0 (fun v => .tuple #[.string ⟨#[]⟩, .int .i64 0, v]) w) :=
  Unpack_head q 7 2 2 (by omega) (by omega) h.looks (by rw [h.head]; exact ex_head) w
theorem Sum_9 (w : World) : Calls Try.prog 11 #[.string ⟨#[49, 50, 51, 52, 53, 54, 55, 56, 57]⟩] w fun e w' => e = .returned (.int .u32 3808858755) ∧ w = w' := by
  have := Sum_any ⟨#[49, 50, 51, 52, 53, 54, 55, 56, 57]⟩ (by decide) w
  rw [ex_sum] at this
  exact this
theorem More_ex (w : World) : Calls Try.prog 13 #[.int .u32 (Fr.sum [49, 50, 51, 52]).toNat, .string ⟨#[53, 54, 55, 56, 57]⟩] w fun e w' => e = .returned (.int .u32 3808858755) ∧ w = w' := by
  have := More_any (Fr.sum [49, 50, 51, 52]) ⟨#[53, 54, 55, 56, 57]⟩ (by decide) w
  rw [ex_more] at this
  exact this
theorem Sum_4 (w : World) : Calls Try.prog 11 #[.string ⟨#[49, 50, 51, 52]⟩] w fun e w' => e = .returned (.int .u32 (Fr.sum [49, 50, 51, 52]).toNat) ∧ w = w' := Sum_any ⟨#[49, 50, 51, 52]⟩ (by decide) w
theorem row_below {g : Nat} {u v : Value} {w w' : World} (h : g < w.heap.size ∧ w.cell? ⟨g, 0, none⟩ = some u ∧ w.cell? ⟨g, 1, none⟩ = some v) (hb : Below w.heap.size w w') :
    g < w'.heap.size ∧ w'.cell? ⟨g, 0, none⟩ = some u ∧ w'.cell? ⟨g, 1, none⟩ = some v :=
  ⟨by have := hb.size; omega, (hb.cell (p := ⟨g, 0, none⟩) h.1).trans h.2.1, (hb.cell (p := ⟨g, 1, none⟩) h.1).trans h.2.2⟩
set_option maxRecDepth 100000 in
set_option maxHeartbeats 2000000 in
theorem known_any (w : World) : Calls Try.prog 9 #[] w fun e w' => e = .returned (.bool true) ∧ Below w.heap.size w w' := by
  go_enter Try.func9, Try.ntmps9
  go_wp2_with fail
  refine (Num_258 _).mono ?_
  rintro e w1 ⟨rfl, hb1⟩
  have HB := Lib.hid hb1
  clear hb1
  go_wp2_with fail
  refine (Num_low (-1) (by omega) _).mono ?_
  rintro e w2 ⟨g2, hg2, rfl, hf2, hb2⟩
  replace HB := Lib.hid (HB.out.trans (hb2.mono HB.out.size))
  have HF2 := Lib.hid hf2
  clear hf2 hb2 hg2
  go_wp2_with fail
  have ba : Below w2.heap.size w2 (w2.alloc (.cells #[Value.string ⟨#[97]⟩, Value.string ⟨#[]⟩] 9)) := (Below.refl _ _).alloc (Nat.le_refl _) _
  replace HB := Lib.hid (HB.out.trans (ba.mono HB.out.size))
  replace HF2 := Lib.hid (HF2.out.below ba)
  have hz2 : w2.heap.size < (w2.alloc (.cells #[Value.string ⟨#[97]⟩, Value.string ⟨#[]⟩] 9)).heap.size := by simp
  have hnew := heap_alloc_new w2 (.cells #[Value.string ⟨#[97]⟩, Value.string ⟨#[]⟩] 9)
  refine (List_ex w2.heap.size 2 _ (by rw [cell_of_list (cs := [Value.string ⟨#[97]⟩, Value.string ⟨#[]⟩]) hnew]; rfl) (by rw [cell_of_list (cs := [Value.string ⟨#[97]⟩, Value.string ⟨#[]⟩]) hnew]; rfl) hz2).mono ?_
  rintro e w3 ⟨⟨q, rfl, hq, hqz⟩, hb⟩
  replace HB := Lib.hid (HB.out.trans (hb.mono HB.out.size))
  replace HF2 := Lib.hid (HF2.out.below hb)
  have HQ := Lib.hid hq
  clear hb ba hz2 hnew hq
  go_wp2_with fail
  refine (Split_ex q HQ.out _).mono ?_
  rintro e w4 ⟨⟨g4, cap4, rfl, hg4, c0, c1⟩, hb⟩
  replace HB := Lib.hid (HB.out.trans (hb.mono HB.out.size))
  replace HF2 := Lib.hid (HF2.out.below hb)
  have HR := Lib.hid (And.intro hg4 (And.intro c0 c1))
  clear hb hg4 c0 c1
  go_wp2_with fail
  refine (Split_ex2 q HQ.out _).mono ?_
  rintro e w5 ⟨g5, hg5, rfl, hf5, hb⟩
  replace HB := Lib.hid (HB.out.trans (hb.mono HB.out.size))
  replace HF2 := Lib.hid (HF2.out.below hb)
  replace HR := Lib.hid (row_below HR.out hb)
  have HF5 := Lib.hid hf5
  clear hb hf5 hg5
  go_wp2_with fail
  refine (Pack_ex _).mono ?_
  rintro e w6 ⟨⟨p, rfl, hp, hpz⟩, hb⟩
  replace HB := Lib.hid (HB.out.trans (hb.mono HB.out.size))
  replace HF2 := Lib.hid (HF2.out.below hb)
  replace HR := Lib.hid (row_below HR.out hb)
  replace HF5 := Lib.hid (HF5.out.below hb)
  have HP := Lib.hid hp
  clear hb hp
  go_wp2_with fail
  refine (Unpack_ex p HP.out _).mono ?_
  rintro e w7 ⟨rfl, hb⟩
  replace HB := Lib.hid (HB.out.trans (hb.mono HB.out.size))
  replace HF2 := Lib.hid (HF2.out.below hb)
  replace HR := Lib.hid (row_below HR.out hb)
  replace HF5 := Lib.hid (HF5.out.below hb)
  clear hb
  go_wp2_with fail
  refine (Unpack_ex2 p HP.out _).mono ?_
  rintro e w8 ⟨g8, hg8, rfl, hf8, hb⟩
  replace HB := Lib.hid (HB.out.trans (hb.mono HB.out.size))
  replace HF2 := Lib.hid (HF2.out.below hb)
  replace HR := Lib.hid (row_below HR.out hb)
  replace HF5 := Lib.hid (HF5.out.below hb)
  have HF8 := Lib.hid hf8
  clear hb hf8 hg8
  have c0 := HR.out.2.1
  have c1 := HR.out.2.2
  clear c0 c1
  go_wp2_with fail
  refine (is_fault g2 1 0 (by omega) _ HF2.out).mono ?_
  rintro e w' ⟨rfl, rfl⟩
  go_wp2_with fail
  refine (is_fault g5 20 13 (by omega) _ HF5.out).mono ?_
  rintro e w' ⟨rfl, rfl⟩
  go_wp2_with fail
  refine (is_fault g8 20 0 (by omega) _ HF8.out).mono ?_
  rintro e w' ⟨rfl, rfl⟩
  clear HF2 HF5 HF8 HQ HP
  go_wp2_with fail
  refine (Sum_9 _).mono ?_
  rintro e w' ⟨rfl, rfl⟩
  go_wp2_with fail
  refine (Sum_4 _).mono ?_
  rintro e w' ⟨rfl, rfl⟩
  go_wp2_with fail
  refine (More_ex _).mono ?_
  rintro e w' ⟨rfl, rfl⟩
  have c0 := HR.out.2.1
  have c1 := HR.out.2.2
  go_wp2_with fail
  go_ret
  exact ⟨rfl, HB.out⟩
end Go.Proofs.Ytkfbifondpbieaa

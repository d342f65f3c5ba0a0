/- The walk of the chapter's example. -/
import Derived.Test.YtmobjpandmdmdaaGreatDoorJHelp
namespace Go.Proofs.YtmobjpandmdmdaaGreatDoor
open Go.RowKit

theorem secs_40 : secs (Fr.zero 40) = 1 := by rw [secs_eq, Fr.length_zero]
theorem secs_41 : secs (Fr.zero 41) = 2 := by rw [secs_eq, Fr.length_zero]
theorem secs_x : secs [120] = 1 := by rw [secs_eq]; rfl
theorem secs_y : secs [121] = 1 := by rw [secs_eq]; rfl
set_option maxRecDepth 100000 in
set_option maxHeartbeats 4000000 in
theorem jknown_true (w : World) : Calls Tryz.prog 4 #[] w fun e w' => e = .returned (.bool true) ∧ Below w.heap.size w w' := by
  have n3 : secsAll [Fr.zero 40, Fr.zero 41] = 3 := by rw [secsAll_cons, secsAll_cons, secsAll_nil, secs_40, secs_41]
  have n1 : secsAll [Fr.zero 40] = 1 := by rw [secsAll_cons, secsAll_nil, secs_40]
  have nx : secsAll [[120]] = 1 := by rw [secsAll_cons, secsAll_nil, secs_x]
  have N3 := Lib.hid n3
  have N1 := Lib.hid n1
  have NX := Lib.hid nx
  clear n3 n1 nx
  go_enter Tryz.func4, Tryz.ntmps4
  go_wp2_with fail
  refine (jrack_ok _).mono ?_
  rintro e w1 ⟨p, d, F1, st1, rfl, hL1⟩
  have HL1 := Lib.hid hL1
  clear hL1
  go_wp2_with fail
  refine (HL1.out.format 4 5 4 10 rfl rfl (by omega) (by omega) (by omega)).mono ?_
  rintro e w2 ⟨j, F2, st2, hj, rfl, hL2, hJ2, hV2, hM2⟩
  have hA2 : JAt j d 4 5 0 1 1 1 false w2 := by have := hJ2.at_; rw [secsAll_nil] at this; exact this
  have HL2 := Lib.hid hL2
  have HJ2 := Lib.hid hJ2
  have HA2 := Lib.hid hA2
  clear hL2 hJ2 hV2 hM2 hA2 hj
  go_wp2_with (first | (go_at_call 17; refine (Left_is j d 4 5 0 1 1 1 false (by omega) (by omega) _ HA2.out).mono ?_; rintro e w3 ⟨rfl, hb3⟩; have HL3 := Lib.hid (HL2.out.below hb3); have HJ3 := Lib.hid (HJ2.out.below hb3); have HA3 := Lib.hid (HA2.out.keep (hb3.block j HA2.out.lt)); clear hb3) | (go_at_call 20; refine (Half_is j d 4 5 0 1 1 1 false (by omega) (by omega) _ HA3.out).mono ?_; rintro e w' ⟨rfl, rfl⟩) | (go_at_call 18; refine (Epoch_is j d 4 5 0 1 1 1 false _ HA3.out).mono ?_; rintro e w' ⟨rfl, rfl⟩) | (go_at_call 19; refine (Len_is j d 4 5 0 1 1 1 false (by omega) (by omega) _ HA3.out).mono ?_; rintro e w' ⟨rfl, rfl⟩) | (go_at_call 7; refine (text_is 40 (by omega) _).mono ?_; rintro e w4 ⟨rfl, hb4⟩; have HL4 := Lib.hid (HL3.out.below hb4); have HJ4 := Lib.hid (HJ3.out.below hb4); clear hb4) | fail)
  refine (HL4.out.append HJ4.out (Fr.zero 40) (by omega) (by omega) (by rw [Fr.length_zero]; omega) (by rw [secsAll_nil, secs_40]; omega)).mono ?_
  rintro e w5 ⟨rfl, F5, st5, hL5, hJ5, _, _⟩
  have HL5 := Lib.hid hL5
  have HJ5 := Lib.hid hJ5
  clear hL5 hJ5
  go_wp2_with (first | (go_at_call 7; refine (text_is 41 (by omega) _).mono ?_; rintro e w6 ⟨rfl, hb6⟩; have HL6 := Lib.hid (HL5.out.below hb6); have HJ6 := Lib.hid (HJ5.out.below hb6); clear hb6) | fail)
  refine (HL6.out.append HJ6.out (Fr.zero 41) (by omega) (by omega) (by rw [Fr.length_zero]; omega) (by rw [List.nil_append, N1.out, secs_41]; omega)).mono ?_
  rintro e w7 ⟨rfl, F7, st7, hL7, hJ7, _, _⟩
  rw [List.nil_append, List.singleton_append] at hJ7
  have HL7 := Lib.hid hL7
  have HJ7 := Lib.hid hJ7
  clear hL7 hJ7
  go_wp2_with (first | (go_at_call 7; refine (text_is 41 (by omega) _).mono ?_; rintro e w8 ⟨rfl, hb8⟩; have HL8 := Lib.hid (HL7.out.below hb8); have HJ8 := Lib.hid (HJ7.out.below hb8); clear hb8) | fail)
  refine (Append_full d 4 5 0 1 _ _ j (Fr.zero 41) (by rw [Fr.length_zero]; omega) (by rw [N3.out]; omega) (by omega) (by rw [N3.out, secs_41]; omega) _ HJ8.out.at_).mono ?_
  rintro e w9 ⟨g, hg, rfl, hf, hb9⟩
  have HL9 := Lib.hid (HL8.out.below hb9)
  have HJ9 := Lib.hid (HJ8.out.below hb9)
  have HF9 := Lib.hid hf
  clear hf hb9
  go_wp2_with (first | (go_at_call 13; refine (is_12 g _ HF9.out).mono ?_; rintro e w' ⟨rfl, rfl⟩) | fail)
  refine (HL9.out.open_ HJ9.out 4 10 rfl rfl (by omega) (by omega)).mono ?_
  rintro e w10 ⟨k1, v10, rfl, hT10, hv10, hL10, hJ10, hb10⟩
  have hX10 : ∀ g, textsBlock v10 = some g → g ∉ [p, j] ∧ g ∉ F7 := fun g hg => by
    have h1 := hv10 g hg
    have h2 := HL9.out.jd.dsk.pow.lt
    have h3 := HJ9.out.at_.lt
    refine ⟨by simp; omega, fun hm => by have := HL9.out.jd.dsk.Flt g hm; omega⟩
  have HX10 := Lib.hid hX10
  have HL10 := Lib.hid hL10
  have HJ10 := Lib.hid hJ10
  have HT10 := Lib.hid hT10
  clear hX10 hL10 hJ10 hT10 hv10 hb10
  go_wp2_with fail
  have hb11 : Below w10.heap.size w10 (w10.alloc (.cells #[Value.string ⟨#[120]⟩] 9)) := (Below.refl _ _).alloc (Nat.le_refl _) _
  refine ((HL10.out.below hb11).reset (HJ10.out.below hb11) _ [[120]] (by omega) (by omega) (by omega) (by intro r hr; simp at hr; rw [hr]; decide) (by rw [NX.out]; omega) (texts_one (r := [120]) w10 (bs_of rfl))).mono ?_
  rintro e w12 ⟨rfl, F12, st12, hL12, hJ12, _, hM12⟩
  have HT12 := Lib.hid ((HT10.out.below (Nat.le_refl _) hb11).mv hM12 HX10.out)
  have HL12 := Lib.hid hL12
  have HJ12 := Lib.hid hJ12
  clear hL12 hJ12 hM12 hb11
  go_wp2_with fail
  refine (HL12.out.open_ HJ12.out 4 10 rfl rfl (by omega) (by omega)).mono ?_
  rintro e w13 ⟨k2, v13, rfl, hT13, hv13, hL13, hJ13, hb13⟩
  have hA13 : JAt j d 4 5 1 2 2 2 false w13 := by have := hJ13.at_; rw [NX.out] at this; exact this
  rcases HT12.out.below (Nat.le_refl _) hb13 with ⟨_, h0⟩ | ⟨g1, o1, cap1, rfl, hg1, hc1⟩
  · cases h0
  rcases hT13 with ⟨_, h0⟩ | ⟨g2, o2, cap2, rfl, hg2, hc2⟩
  · cases h0
  have d1 : w13.cell? ⟨g1, o1 + 1, none⟩ = some (.string (bs (Fr.zero 41))) := hc1 1 (by decide)
  have d2 : w13.cell? ⟨g2, o2, none⟩ = some (.string (bs [120])) := hc2 0 (by decide)
  have hs41 : (bs (Fr.zero 41)).size = 41 := by rw [bs_size, Fr.length_zero]
  obtain ⟨q41, hq41⟩ : ∃ q, q = bs (Fr.zero 41) := ⟨_, rfl⟩
  rw [← hq41] at d1 hs41
  rw [show bs [120] = (⟨#[120]⟩ : ByteArray) from (bs_of (s := ⟨#[120]⟩) rfl).symm] at d2
  have HL13 := Lib.hid hL13
  have HA13 := Lib.hid hA13
  clear hq41 hL13 hJ13 hA13 hc1 hc2 hv13 hb13 hg1
  go_wp2_with (first | (go_at_call 17; refine (Left_is j d 4 5 1 2 2 2 false (by omega) (by omega) _ HA13.out).mono ?_; rintro e w14 ⟨rfl, hb14⟩; have HL14 := Lib.hid (HL13.out.below hb14); have HA14 := Lib.hid (HA13.out.keep (hb14.block j HA13.out.lt)); have d2 := (hb14.cell (p := ⟨g2, o2, none⟩) (by omega)).trans d2; clear hb14) | (go_at_call 18; refine (Epoch_is j d 4 5 1 2 2 2 false _ HA13.out).mono ?_; rintro e w' ⟨rfl, rfl⟩) | (go_at_call 19; refine (Len_is j d 4 5 1 2 2 2 false (by omega) (by omega) _ HA14.out).mono ?_; rintro e w' ⟨rfl, rfl⟩) | fail)
  go_ret
  exact ⟨rfl, HL14.out.old⟩
end Go.Proofs.YtmobjpandmdmdaaGreatDoor

/- Merged: MRkA MRkB MRkC MRkD (for a claim's number of files). -/
import Derived.Test.YteanbflbclmeeaaGreatMRefP
import Derived.Test.YteanbflbclmeeaaGreatMRk0
import Derived.Test.YteanbflbclmeeaaGreatRLast
/- The document's own Mul, Invert, Rank, Pick, Under: what they refuse; Mul. -/
namespace Go.Proofs.YteanbflbclmeeaaGreat
open Go.RowKit

theorem zero_ones : ∀ v ∈ zeroRow, v.oneCell' = true := fun v hv => by unfold zeroRow at hv; simp at hv; rcases hv with rfl | rfl | rfl <;> rfl
theorem ret_none {R : Nat} {w0 w1 w2 : World} (hB : Below w0.heap.size w0 w1) (hR : w0.heap.size ≤ R) (k2 : Kept w1.heap.size [R] w1 w2) : Below w0.heap.size w0 w2 := below_kept hB k2 hR hB.size

set_option maxRecDepth 20000 in
set_option maxHeartbeats 2000000 in
theorem rUnder_bad00 (ra ca : Int) (a0 : Option Addr) (la capa : Nat) (rb cb : Int) (b0 : Option Addr) (lb capb : Nat) (hA : rightB ra ca la = false) (hB : rightB rb cb lb = false) (w : World) :
    Calls Tryz.prog 44 #[.agg #[.int .i64 ra, .int .i64 ca, .slice a0 la capa], .agg #[.int .i64 rb, .int .i64 cb, .slice b0 lb capb]] w fun e w' => e = .returned (.tuple #[noneV, .int .i64 1]) ∧ Below w.heap.size w w' := by
  obtain ⟨wa, hwa⟩ : ∃ wa, wa = ((w.alloc (.cells #[.int .i64 ra, .int .i64 ca, .slice a0 la capa] 62)).alloc (.cells #[.int .i64 rb, .int .i64 cb, .slice b0 lb capb] 62)).alloc (.cells #[.int .i64 0, .int .i64 0, .slice none 0 0] 62) := ⟨_, rfl⟩
  have T0 : Hid (Two w.heap.size (.int .i64 ra) (.int .i64 ca) (.slice a0 la capa) (.int .i64 rb) (.int .i64 cb) (.slice b0 lb capb) w wa) := Lib.hid (by rw [hwa]; exact Two.start _ _ _ _ _ _ _)
  have HWA := Lib.hid hwa
  obtain ⟨d0, d1, d2⟩ := heap_cell0 T0.out.a
  clear hwa
  go_enter Tryz.func44, Tryz.ntmps44
  go_wp2_with fail
  rw [← HWA.out]
  go_wp2_with fail
  refine (rRight_any ra ca a0 la capa _).mono ?_
  rintro e w1 ⟨rfl, hb1⟩
  rw [hA]
  have T1 := Lib.hid (T0.out.below hb1)
  clear hb1 T0 d0 d1 d2
  obtain ⟨d0, d1, d2⟩ := heap_cell0 T1.out.b
  go_wp2_with fail
  refine (rRight_any rb cb b0 lb capb _).mono ?_
  rintro e w2 ⟨rfl, hb2⟩
  rw [hB]
  have T2 := Lib.hid (T1.out.below hb2)
  clear hb2 T1 d0 d1 d2
  obtain ⟨d0, d1, d2⟩ := heap_cell0 T2.out.a
  obtain ⟨e0, e1, e2⟩ := heap_cell0 T2.out.b
  go_wp2_with (refine wpList_store_whole rfl 62 _ _ rfl (w.heap.size + 1 + 1) zeroRow zeroRow 62 rfl rfl T2.out.r rfl (by kernel_rfl) zero_ones ?_; intro w4 h4 k4 s4; go_frame)
  exact bodyPost_ret (results_mid2 Tryz.results44 _ _ (w.heap.size + 1 + 1) 0 zeroRow _ rfl (range_of_list h4.out) Tryz.underlying62 rfl (by kernel_rfl)) rfl ⟨rfl, ret_none T2.out.old (by omega) k4.out⟩

set_option maxRecDepth 20000 in
set_option maxHeartbeats 2000000 in
theorem rUnder_bad01 (ra ca : Int) (a0 : Option Addr) (la capa : Nat) (rb cb : Int) (b0 : Option Addr) (lb capb : Nat) (hA : rightB ra ca la = false) (hB : rightB rb cb lb = true) (w : World) :
    Calls Tryz.prog 44 #[.agg #[.int .i64 ra, .int .i64 ca, .slice a0 la capa], .agg #[.int .i64 rb, .int .i64 cb, .slice b0 lb capb]] w fun e w' => e = .returned (.tuple #[noneV, .int .i64 1]) ∧ Below w.heap.size w w' := by
  obtain ⟨wa, hwa⟩ : ∃ wa, wa = ((w.alloc (.cells #[.int .i64 ra, .int .i64 ca, .slice a0 la capa] 62)).alloc (.cells #[.int .i64 rb, .int .i64 cb, .slice b0 lb capb] 62)).alloc (.cells #[.int .i64 0, .int .i64 0, .slice none 0 0] 62) := ⟨_, rfl⟩
  have T0 : Hid (Two w.heap.size (.int .i64 ra) (.int .i64 ca) (.slice a0 la capa) (.int .i64 rb) (.int .i64 cb) (.slice b0 lb capb) w wa) := Lib.hid (by rw [hwa]; exact Two.start _ _ _ _ _ _ _)
  have HWA := Lib.hid hwa
  obtain ⟨d0, d1, d2⟩ := heap_cell0 T0.out.a
  clear hwa
  go_enter Tryz.func44, Tryz.ntmps44
  go_wp2_with fail
  rw [← HWA.out]
  go_wp2_with fail
  refine (rRight_any ra ca a0 la capa _).mono ?_
  rintro e w1 ⟨rfl, hb1⟩
  rw [hA]
  have T1 := Lib.hid (T0.out.below hb1)
  clear hb1 T0 d0 d1 d2
  obtain ⟨d0, d1, d2⟩ := heap_cell0 T1.out.b
  go_wp2_with fail
  refine (rRight_any rb cb b0 lb capb _).mono ?_
  rintro e w2 ⟨rfl, hb2⟩
  rw [hB]
  have T2 := Lib.hid (T1.out.below hb2)
  clear hb2 T1 d0 d1 d2
  obtain ⟨d0, d1, d2⟩ := heap_cell0 T2.out.a
  obtain ⟨e0, e1, e2⟩ := heap_cell0 T2.out.b
  go_wp2_with (refine wpList_store_whole rfl 62 _ _ rfl (w.heap.size + 1 + 1) zeroRow zeroRow 62 rfl rfl T2.out.r rfl (by kernel_rfl) zero_ones ?_; intro w4 h4 k4 s4; go_frame)
  exact bodyPost_ret (results_mid2 Tryz.results44 _ _ (w.heap.size + 1 + 1) 0 zeroRow _ rfl (range_of_list h4.out) Tryz.underlying62 rfl (by kernel_rfl)) rfl ⟨rfl, ret_none T2.out.old (by omega) k4.out⟩

set_option maxRecDepth 20000 in
set_option maxHeartbeats 2000000 in
theorem rUnder_bad10 (ra ca : Int) (a0 : Option Addr) (la capa : Nat) (rb cb : Int) (b0 : Option Addr) (lb capb : Nat) (hA : rightB ra ca la = true) (hB : rightB rb cb lb = false) (w : World) :
    Calls Tryz.prog 44 #[.agg #[.int .i64 ra, .int .i64 ca, .slice a0 la capa], .agg #[.int .i64 rb, .int .i64 cb, .slice b0 lb capb]] w fun e w' => e = .returned (.tuple #[noneV, .int .i64 1]) ∧ Below w.heap.size w w' := by
  obtain ⟨wa, hwa⟩ : ∃ wa, wa = ((w.alloc (.cells #[.int .i64 ra, .int .i64 ca, .slice a0 la capa] 62)).alloc (.cells #[.int .i64 rb, .int .i64 cb, .slice b0 lb capb] 62)).alloc (.cells #[.int .i64 0, .int .i64 0, .slice none 0 0] 62) := ⟨_, rfl⟩
  have T0 : Hid (Two w.heap.size (.int .i64 ra) (.int .i64 ca) (.slice a0 la capa) (.int .i64 rb) (.int .i64 cb) (.slice b0 lb capb) w wa) := Lib.hid (by rw [hwa]; exact Two.start _ _ _ _ _ _ _)
  have HWA := Lib.hid hwa
  obtain ⟨d0, d1, d2⟩ := heap_cell0 T0.out.a
  clear hwa
  go_enter Tryz.func44, Tryz.ntmps44
  go_wp2_with fail
  rw [← HWA.out]
  go_wp2_with fail
  refine (rRight_any ra ca a0 la capa _).mono ?_
  rintro e w1 ⟨rfl, hb1⟩
  rw [hA]
  have T1 := Lib.hid (T0.out.below hb1)
  clear hb1 T0 d0 d1 d2
  obtain ⟨d0, d1, d2⟩ := heap_cell0 T1.out.b
  go_wp2_with fail
  refine (rRight_any rb cb b0 lb capb _).mono ?_
  rintro e w2 ⟨rfl, hb2⟩
  rw [hB]
  have T2 := Lib.hid (T1.out.below hb2)
  clear hb2 T1 d0 d1 d2
  obtain ⟨d0, d1, d2⟩ := heap_cell0 T2.out.a
  obtain ⟨e0, e1, e2⟩ := heap_cell0 T2.out.b
  go_wp2_with (refine wpList_store_whole rfl 62 _ _ rfl (w.heap.size + 1 + 1) zeroRow zeroRow 62 rfl rfl T2.out.r rfl (by kernel_rfl) zero_ones ?_; intro w4 h4 k4 s4; go_frame)
  exact bodyPost_ret (results_mid2 Tryz.results44 _ _ (w.heap.size + 1 + 1) 0 zeroRow _ rfl (range_of_list h4.out) Tryz.underlying62 rfl (by kernel_rfl)) rfl ⟨rfl, ret_none T2.out.old (by omega) k4.out⟩

theorem rUnder_bad (ra ca : Int) (a0 : Option Addr) (la capa : Nat) (rb cb : Int) (b0 : Option Addr) (lb capb : Nat) (h : (rightB ra ca la && rightB rb cb lb) = false) (w : World) :
    Calls Tryz.prog 44 #[.agg #[.int .i64 ra, .int .i64 ca, .slice a0 la capa], .agg #[.int .i64 rb, .int .i64 cb, .slice b0 lb capb]] w fun e w' => e = .returned (.tuple #[noneV, .int .i64 1]) ∧ Below w.heap.size w w' := by
  cases hA : rightB ra ca la <;> cases hB : rightB rb cb lb
  · exact rUnder_bad00 ra ca a0 la capa rb cb b0 lb capb hA hB w
  · exact rUnder_bad01 ra ca a0 la capa rb cb b0 lb capb hA hB w
  · exact rUnder_bad10 ra ca a0 la capa rb cb b0 lb capb hA hB w
  · rw [hA, hB] at h; exact absurd h (by decide)

set_option maxRecDepth 20000 in
set_option maxHeartbeats 2000000 in
theorem rUnder_many (ra ca : Int) (a0 : Option Addr) (la capa : Nat) (rb cb : Int) (b0 : Option Addr) (lb capb : Nat) (hA : rightB ra ca la = true) (hB : rightB rb cb lb = true) (hs : 255 < ra + rb) (hs2 : ra + rb < 1000000) (w : World) :
    Calls Tryz.prog 44 #[.agg #[.int .i64 ra, .int .i64 ca, .slice a0 la capa], .agg #[.int .i64 rb, .int .i64 cb, .slice b0 lb capb]] w fun e w' => e = .returned (.tuple #[noneV, .int .i64 1]) ∧ Below w.heap.size w w' := by
  have hnb : decide ((255 : Int) < ra + rb) = true := decide_eq_true hs
  have hwr : wrap64 (ra + rb) = ra + rb := by have := (right_parts hA).1; have := (right_parts hB).1; unfold wrap64; omega
  clear hs hs2
  obtain ⟨wa, hwa⟩ : ∃ wa, wa = ((w.alloc (.cells #[.int .i64 ra, .int .i64 ca, .slice a0 la capa] 62)).alloc (.cells #[.int .i64 rb, .int .i64 cb, .slice b0 lb capb] 62)).alloc (.cells #[.int .i64 0, .int .i64 0, .slice none 0 0] 62) := ⟨_, rfl⟩
  have T0 : Hid (Two w.heap.size (.int .i64 ra) (.int .i64 ca) (.slice a0 la capa) (.int .i64 rb) (.int .i64 cb) (.slice b0 lb capb) w wa) := Lib.hid (by rw [hwa]; exact Two.start _ _ _ _ _ _ _)
  have HWA := Lib.hid hwa
  obtain ⟨d0, d1, d2⟩ := heap_cell0 T0.out.a
  clear hwa
  go_enter Tryz.func44, Tryz.ntmps44
  go_wp2_with fail
  rw [← HWA.out]
  go_wp2_with fail
  refine (rRight_any ra ca a0 la capa _).mono ?_
  rintro e w1 ⟨rfl, hb1⟩
  rw [hA]
  have T1 := Lib.hid (T0.out.below hb1)
  clear hb1 T0 d0 d1 d2
  obtain ⟨d0, d1, d2⟩ := heap_cell0 T1.out.b
  go_wp2_with fail
  refine (rRight_any rb cb b0 lb capb _).mono ?_
  rintro e w2 ⟨rfl, hb2⟩
  rw [hB]
  have T2 := Lib.hid (T1.out.below hb2)
  clear hb2 T1 d0 d1 d2
  obtain ⟨d0, d1, d2⟩ := heap_cell0 T2.out.a
  obtain ⟨e0, e1, e2⟩ := heap_cell0 T2.out.b
  go_wp2_with (refine wpList_store_whole rfl 62 _ _ rfl (w.heap.size + 1 + 1) zeroRow zeroRow 62 rfl rfl T2.out.r rfl (by kernel_rfl) zero_ones ?_; intro w4 h4 k4 s4; go_frame)
  exact bodyPost_ret (results_mid2 Tryz.results44 _ _ (w.heap.size + 1 + 1) 0 zeroRow _ rfl (range_of_list h4.out) Tryz.underlying62 rfl (by kernel_rfl)) rfl ⟨rfl, ret_none T2.out.old (by omega) k4.out⟩

set_option maxRecDepth 20000 in
set_option maxHeartbeats 2000000 in
theorem rUnder_shape (ra ca : Int) (a0 : Option Addr) (la capa : Nat) (rb cb : Int) (b0 : Option Addr) (lb capb : Nat) (hA : rightB ra ca la = true) (hB : rightB rb cb lb = true) (hs : ra + rb ≤ 255) (hne : ca ≠ cb) (w : World) :
    Calls Tryz.prog 44 #[.agg #[.int .i64 ra, .int .i64 ca, .slice a0 la capa], .agg #[.int .i64 rb, .int .i64 cb, .slice b0 lb capb]] w fun e w' => e = .returned (.tuple #[noneV, .int .i64 19]) ∧ Below w.heap.size w w' := by
  have hnb : decide ((255 : Int) < ra + rb) = false := decide_eq_false (by omega)
  have hwr : wrap64 (ra + rb) = ra + rb := by have := (right_parts hA).1; have := (right_parts hB).1; unfold wrap64; omega
  have hnc := int_ne_B hne
  clear hs hne
  obtain ⟨wa, hwa⟩ : ∃ wa, wa = ((w.alloc (.cells #[.int .i64 ra, .int .i64 ca, .slice a0 la capa] 62)).alloc (.cells #[.int .i64 rb, .int .i64 cb, .slice b0 lb capb] 62)).alloc (.cells #[.int .i64 0, .int .i64 0, .slice none 0 0] 62) := ⟨_, rfl⟩
  have T0 : Hid (Two w.heap.size (.int .i64 ra) (.int .i64 ca) (.slice a0 la capa) (.int .i64 rb) (.int .i64 cb) (.slice b0 lb capb) w wa) := Lib.hid (by rw [hwa]; exact Two.start _ _ _ _ _ _ _)
  have HWA := Lib.hid hwa
  obtain ⟨d0, d1, d2⟩ := heap_cell0 T0.out.a
  clear hwa
  go_enter Tryz.func44, Tryz.ntmps44
  go_wp2_with fail
  rw [← HWA.out]
  go_wp2_with fail
  refine (rRight_any ra ca a0 la capa _).mono ?_
  rintro e w1 ⟨rfl, hb1⟩
  rw [hA]
  have T1 := Lib.hid (T0.out.below hb1)
  clear hb1 T0 d0 d1 d2
  obtain ⟨d0, d1, d2⟩ := heap_cell0 T1.out.b
  go_wp2_with fail
  refine (rRight_any rb cb b0 lb capb _).mono ?_
  rintro e w2 ⟨rfl, hb2⟩
  rw [hB]
  have T2 := Lib.hid (T1.out.below hb2)
  clear hb2 T1 d0 d1 d2
  obtain ⟨d0, d1, d2⟩ := heap_cell0 T2.out.a
  obtain ⟨e0, e1, e2⟩ := heap_cell0 T2.out.b
  go_wp2_with (refine wpList_store_whole rfl 62 _ _ rfl (w.heap.size + 1 + 1) zeroRow zeroRow 62 rfl rfl T2.out.r rfl (by kernel_rfl) zero_ones ?_; intro w4 h4 k4 s4; go_frame)
  exact bodyPost_ret (results_mid2 Tryz.results44 _ _ (w.heap.size + 1 + 1) 0 zeroRow _ rfl (range_of_list h4.out) Tryz.underlying62 rfl (by kernel_rfl)) rfl ⟨rfl, ret_none T2.out.old (by omega) k4.out⟩

set_option maxRecDepth 20000 in
set_option maxHeartbeats 2000000 in
theorem rInvert_bad (r c : Int) (a0 : Option Addr) (len cap : Nat)  (hr : rightB r c len = false) (w : World) :
    Calls Tryz.prog 27 #[.agg #[.int .i64 r, .int .i64 c, .slice a0 len cap]] w fun e w' => e = .returned (.tuple #[noneV, .int .i64 1]) ∧ Below w.heap.size w w' := by
  obtain ⟨wa, hwa⟩ : ∃ wa, wa = (w.alloc (.cells #[.int .i64 r, .int .i64 c, .slice a0 len cap] 62)).alloc (.cells #[.int .i64 0, .int .i64 0, .slice none 0 0] 62) := ⟨_, rfl⟩
  have R0 : Hid (RA r c a0 len cap w wa) := Lib.hid (by rw [hwa]; exact ⟨heap_alloc2_old _ _ _, (below_alloc w _).alloc (by simp) _⟩)
  have RES : Hid (ResAt (w.heap.size + 1) 62 wa) := Lib.hid (by rw [hwa]; exact heap_alloc2_new _ _ _)
  have HWA := Lib.hid hwa
  obtain ⟨d0, d1, d2⟩ := heap_cell0 R0.out.box
  clear hwa
  go_enter Tryz.func27, Tryz.ntmps27
  go_wp2_with fail
  rw [← HWA.out]
  go_wp2_with fail
  refine (rRight_any r c a0 len cap _).mono ?_
  rintro e w1 ⟨rfl, hb1⟩
  rw [hr]
  have R1 := Lib.hid (R0.out.below hb1)
  have RE1 := Lib.hid (RES.out.below hb1 RES.out.lt)
  clear hb1 R0 RES d0 d1 d2
  obtain ⟨d0, d1, d2⟩ := heap_cell0 R1.out.box
  go_wp2_with (refine wpList_store_whole rfl 62 _ _ rfl (w.heap.size + 1) zeroRow zeroRow 62 rfl rfl RE1.out rfl (by kernel_rfl) zero_ones ?_; intro w4 h4 k4 s4; go_frame)
  exact bodyPost_ret (results_mid2 Tryz.results27 _ _ (w.heap.size + 1) 0 zeroRow _ rfl (range_of_list h4.out) Tryz.underlying62 rfl (by kernel_rfl)) rfl ⟨rfl, ret_none R1.out.old (by omega) k4.out⟩

set_option maxRecDepth 20000 in
set_option maxHeartbeats 2000000 in
theorem rInvert_shape (r c : Int) (a0 : Option Addr) (len cap : Nat)  (hr : rightB r c len = true) (hne : r ≠ c) (w : World) :
    Calls Tryz.prog 27 #[.agg #[.int .i64 r, .int .i64 c, .slice a0 len cap]] w fun e w' => e = .returned (.tuple #[noneV, .int .i64 19]) ∧ Below w.heap.size w w' := by
  have hnb := int_ne_B hne
  clear hne
  obtain ⟨wa, hwa⟩ : ∃ wa, wa = (w.alloc (.cells #[.int .i64 r, .int .i64 c, .slice a0 len cap] 62)).alloc (.cells #[.int .i64 0, .int .i64 0, .slice none 0 0] 62) := ⟨_, rfl⟩
  have R0 : Hid (RA r c a0 len cap w wa) := Lib.hid (by rw [hwa]; exact ⟨heap_alloc2_old _ _ _, (below_alloc w _).alloc (by simp) _⟩)
  have RES : Hid (ResAt (w.heap.size + 1) 62 wa) := Lib.hid (by rw [hwa]; exact heap_alloc2_new _ _ _)
  have HWA := Lib.hid hwa
  obtain ⟨d0, d1, d2⟩ := heap_cell0 R0.out.box
  clear hwa
  go_enter Tryz.func27, Tryz.ntmps27
  go_wp2_with fail
  rw [← HWA.out]
  go_wp2_with fail
  refine (rRight_any r c a0 len cap _).mono ?_
  rintro e w1 ⟨rfl, hb1⟩
  rw [hr]
  have R1 := Lib.hid (R0.out.below hb1)
  have RE1 := Lib.hid (RES.out.below hb1 RES.out.lt)
  clear hb1 R0 RES d0 d1 d2
  obtain ⟨d0, d1, d2⟩ := heap_cell0 R1.out.box
  go_wp2_with (refine wpList_store_whole rfl 62 _ _ rfl (w.heap.size + 1) zeroRow zeroRow 62 rfl rfl RE1.out rfl (by kernel_rfl) zero_ones ?_; intro w4 h4 k4 s4; go_frame)
  exact bodyPost_ret (results_mid2 Tryz.results27 _ _ (w.heap.size + 1) 0 zeroRow _ rfl (range_of_list h4.out) Tryz.underlying62 rfl (by kernel_rfl)) rfl ⟨rfl, ret_none R1.out.old (by omega) k4.out⟩

set_option maxRecDepth 20000 in
set_option maxHeartbeats 2000000 in
theorem rPick_bad (r c : Int) (a0 : Option Addr) (len cap : Nat) (p0 : Option Addr) (nr capr : Nat) (hr : rightB r c len = false) (w : World) :
    Calls Tryz.prog 25 #[.agg #[.int .i64 r, .int .i64 c, .slice a0 len cap], .slice p0 nr capr] w fun e w' => e = .returned (.tuple #[noneV, .int .i64 1]) ∧ Below w.heap.size w w' := by
  obtain ⟨wa, hwa⟩ : ∃ wa, wa = (w.alloc (.cells #[.int .i64 r, .int .i64 c, .slice a0 len cap] 62)).alloc (.cells #[.int .i64 0, .int .i64 0, .slice none 0 0] 62) := ⟨_, rfl⟩
  have R0 : Hid (RA r c a0 len cap w wa) := Lib.hid (by rw [hwa]; exact ⟨heap_alloc2_old _ _ _, (below_alloc w _).alloc (by simp) _⟩)
  have RES : Hid (ResAt (w.heap.size + 1) 62 wa) := Lib.hid (by rw [hwa]; exact heap_alloc2_new _ _ _)
  have HWA := Lib.hid hwa
  obtain ⟨d0, d1, d2⟩ := heap_cell0 R0.out.box
  clear hwa
  go_enter Tryz.func25, Tryz.ntmps25
  go_wp2_with fail
  rw [← HWA.out]
  go_wp2_with fail
  refine (rRight_any r c a0 len cap _).mono ?_
  rintro e w1 ⟨rfl, hb1⟩
  rw [hr]
  have R1 := Lib.hid (R0.out.below hb1)
  have RE1 := Lib.hid (RES.out.below hb1 RES.out.lt)
  clear hb1 R0 RES d0 d1 d2
  obtain ⟨d0, d1, d2⟩ := heap_cell0 R1.out.box
  go_wp2_with (refine wpList_store_whole rfl 62 _ _ rfl (w.heap.size + 1) zeroRow zeroRow 62 rfl rfl RE1.out rfl (by kernel_rfl) zero_ones ?_; intro w4 h4 k4 s4; go_frame)
  exact bodyPost_ret (results_mid2 Tryz.results25 _ _ (w.heap.size + 1) 0 zeroRow _ rfl (range_of_list h4.out) Tryz.underlying62 rfl (by kernel_rfl)) rfl ⟨rfl, ret_none R1.out.old (by omega) k4.out⟩

set_option maxRecDepth 20000 in
set_option maxHeartbeats 2000000 in
theorem rPick_few (r c : Int) (a0 : Option Addr) (len cap : Nat) (p0 : Option Addr) (nr capr : Nat) (hr : rightB r c len = true) (hn : nr < 1) (w : World) :
    Calls Tryz.prog 25 #[.agg #[.int .i64 r, .int .i64 c, .slice a0 len cap], .slice p0 nr capr] w fun e w' => e = .returned (.tuple #[noneV, .int .i64 1]) ∧ Below w.heap.size w w' := by
  have hnb : decide ((nr : Int) < 1) = true := decide_eq_true (by omega)
  clear hn
  obtain ⟨wa, hwa⟩ : ∃ wa, wa = (w.alloc (.cells #[.int .i64 r, .int .i64 c, .slice a0 len cap] 62)).alloc (.cells #[.int .i64 0, .int .i64 0, .slice none 0 0] 62) := ⟨_, rfl⟩
  have R0 : Hid (RA r c a0 len cap w wa) := Lib.hid (by rw [hwa]; exact ⟨heap_alloc2_old _ _ _, (below_alloc w _).alloc (by simp) _⟩)
  have RES : Hid (ResAt (w.heap.size + 1) 62 wa) := Lib.hid (by rw [hwa]; exact heap_alloc2_new _ _ _)
  have HWA := Lib.hid hwa
  obtain ⟨d0, d1, d2⟩ := heap_cell0 R0.out.box
  clear hwa
  go_enter Tryz.func25, Tryz.ntmps25
  go_wp2_with fail
  rw [← HWA.out]
  go_wp2_with fail
  refine (rRight_any r c a0 len cap _).mono ?_
  rintro e w1 ⟨rfl, hb1⟩
  rw [hr]
  have R1 := Lib.hid (R0.out.below hb1)
  have RE1 := Lib.hid (RES.out.below hb1 RES.out.lt)
  clear hb1 R0 RES d0 d1 d2
  obtain ⟨d0, d1, d2⟩ := heap_cell0 R1.out.box
  go_wp2_with (refine wpList_store_whole rfl 62 _ _ rfl (w.heap.size + 1) zeroRow zeroRow 62 rfl rfl RE1.out rfl (by kernel_rfl) zero_ones ?_; intro w4 h4 k4 s4; go_frame)
  exact bodyPost_ret (results_mid2 Tryz.results25 _ _ (w.heap.size + 1) 0 zeroRow _ rfl (range_of_list h4.out) Tryz.underlying62 rfl (by kernel_rfl)) rfl ⟨rfl, ret_none R1.out.old (by omega) k4.out⟩

set_option maxRecDepth 20000 in
set_option maxHeartbeats 2000000 in
theorem rPick_many (r c : Int) (a0 : Option Addr) (len cap : Nat) (p0 : Option Addr) (nr capr : Nat) (hr : rightB r c len = true) (hn : 255 < nr) (w : World) :
    Calls Tryz.prog 25 #[.agg #[.int .i64 r, .int .i64 c, .slice a0 len cap], .slice p0 nr capr] w fun e w' => e = .returned (.tuple #[noneV, .int .i64 1]) ∧ Below w.heap.size w w' := by
  have hnb : decide ((nr : Int) < 1) = false := decide_eq_false (by omega)
  have hnc : decide ((255 : Int) < (nr : Int)) = true := decide_eq_true (by omega)
  clear hn
  obtain ⟨wa, hwa⟩ : ∃ wa, wa = (w.alloc (.cells #[.int .i64 r, .int .i64 c, .slice a0 len cap] 62)).alloc (.cells #[.int .i64 0, .int .i64 0, .slice none 0 0] 62) := ⟨_, rfl⟩
  have R0 : Hid (RA r c a0 len cap w wa) := Lib.hid (by rw [hwa]; exact ⟨heap_alloc2_old _ _ _, (below_alloc w _).alloc (by simp) _⟩)
  have RES : Hid (ResAt (w.heap.size + 1) 62 wa) := Lib.hid (by rw [hwa]; exact heap_alloc2_new _ _ _)
  have HWA := Lib.hid hwa
  obtain ⟨d0, d1, d2⟩ := heap_cell0 R0.out.box
  clear hwa
  go_enter Tryz.func25, Tryz.ntmps25
  go_wp2_with fail
  rw [← HWA.out]
  go_wp2_with fail
  refine (rRight_any r c a0 len cap _).mono ?_
  rintro e w1 ⟨rfl, hb1⟩
  rw [hr]
  have R1 := Lib.hid (R0.out.below hb1)
  have RE1 := Lib.hid (RES.out.below hb1 RES.out.lt)
  clear hb1 R0 RES d0 d1 d2
  obtain ⟨d0, d1, d2⟩ := heap_cell0 R1.out.box
  go_wp2_with (refine wpList_store_whole rfl 62 _ _ rfl (w.heap.size + 1) zeroRow zeroRow 62 rfl rfl RE1.out rfl (by kernel_rfl) zero_ones ?_; intro w4 h4 k4 s4; go_frame)
  exact bodyPost_ret (results_mid2 Tryz.results25 _ _ (w.heap.size + 1) 0 zeroRow _ rfl (range_of_list h4.out) Tryz.underlying62 rfl (by kernel_rfl)) rfl ⟨rfl, ret_none R1.out.old (by omega) k4.out⟩

end Go.Proofs.YteanbflbclmeeaaGreat

/- The document's own Mul of right matrices. -/
namespace Go.Proofs.YteanbflbclmeeaaGreat
open Go.RowKit

/-- A matrix whose cells ahead of a place are told. -/
def fillT (P : Mat) (i j : Nat) : Mat := fun a b => if a < i ∨ (a = i ∧ b < j) then P a b else 0
theorem fillT_zero (P : Mat) : fillT P 0 0 = zeroM := by funext a b; unfold fillT; rw [if_neg (by omega)]
theorem fillT_step (P : Mat) (i j : Nat) (x : UInt8) (hx : P i j = x) : setM i j x (fillT P i j) = fillT P i (j + 1) := by
  funext a b
  unfold setM fillT
  by_cases h : a = i ∧ b = j
  · rw [if_pos h, if_pos (by omega), h.1, h.2, hx]
  · rw [if_neg h]
    by_cases h2 : a < i ∨ (a = i ∧ b < j)
    · rw [if_pos h2, if_pos (by omega)]
    · rw [if_neg h2, if_neg (by omega)]
theorem fillT_row {r : Nat} (P : Mat) (i cc : Nat) : Alike r cc (fillT P i cc) (fillT P (i + 1) 0) := fun a b _ hb => by
  unfold fillT
  by_cases h2 : a < i ∨ (a = i ∧ b < cc)
  · rw [if_pos h2, if_pos (by omega)]
  · rw [if_neg h2, if_neg (by omega)]
theorem fillT_all (P : Mat) (r cc : Nat) : Alike r cc (fillT P r 0) P := fun a b ha _ => by unfold fillT; rw [if_pos (by omega)]
/-- Two boxes that stand ahead of all that a call makes. -/
structure Pre2 (B : Nat) (x1 y1 z1 x2 y2 z2 : Value) (wq : World) : Prop where
  a : wq.heap[B]? = some (.cells [x1, y1, z1].toArray 62 (0, 0))
  b : wq.heap[B + 1]? = some (.cells [x2, y2, z2].toArray 62 (0, 0))
theorem Pre2.below {B : Nat} {x1 y1 z1 x2 y2 z2 : Value} {wq v : World} (h : Pre2 B x1 y1 z1 x2 y2 z2 wq) (hb : Below wq.heap.size wq v) : Pre2 B x1 y1 z1 x2 y2 z2 v := ⟨(hb.block _ (lt_of_heap h.a)).trans h.a, (hb.block _ (lt_of_heap h.b)).trans h.b⟩
theorem Pre2.start (w : World) (x1 y1 z1 x2 y2 z2 : Value) : Pre2 w.heap.size x1 y1 z1 x2 y2 z2 ((w.alloc (.cells #[x1, y1, z1] 62)).alloc (.cells #[x2, y2, z2] 62)) :=
  ⟨by rw [heap_alloc_old _ _ (by simp)]; exact heap_alloc_new _ _, by exact heap_alloc2_new _ _ _⟩
theorem BoxR.drewN {B g r c N : Nat} {M : Mat} {w0 v : World} (h : BoxR B g r c N M w0 v) (m : Nat) : BoxR B g r c N M w0 (v.drewN m) :=
  ⟨h.box, h.tab.below ((below_drewN (Below.refl _ _) m) : Below v.heap.size v (v.drewN m)) h.tab.lt, h.res, below_drewN h.old m, h.gl, h.bl, h.ne⟩
/-- Sums of places, in both forms. -/
theorem mul_wrapI {r c N : Nat} (hN : r * c = N) (hmax : N ≤ 1000000) : IntKind.i64.wrap ((r : Int) * (c : Int)) = (N : Int) := by rw [IntWalk.i64_left]; exact mul_wrap hN hmax
theorem add_wrap {a b N : Nat} (hN : a + b = N) (hmax : N ≤ 1000000) : wrap64 ((a : Int) + (b : Int)) = (N : Int) := by
  have : (a : Int) + (b : Int) = (N : Int) := by rw [← hN]; simp
  rw [this]; unfold wrap64; omega
theorem add_wrapI {a b N : Nat} (hN : a + b = N) (hmax : N ≤ 1000000) : IntKind.i64.wrap ((a : Int) + (b : Int)) = (N : Int) := by rw [IntWalk.i64_left]; exact add_wrap hN hmax
/-- .. as values: omega does not look into these. -/
theorem mulV {r c N : Nat} (hN : r * c = N) (hmax : N ≤ 1000000) : Value.int .i64 (wrap64 ((r : Int) * (c : Int))) = Value.int .i64 (N : Int) := by rw [mul_wrap hN hmax]
theorem addV {a b N : Nat} (hN : a + b = N) (hmax : N ≤ 1000000) : Value.int .i64 (wrap64 ((a : Int) + (b : Int))) = Value.int .i64 (N : Int) := by rw [add_wrap hN hmax]
theorem ret_int8 {a b : UInt8} (h : a = b) : Value.int .u8 (a.toNat : Int) = .int .u8 (b.toNat : Int) := by rw [h]
end Go.Proofs.YteanbflbclmeeaaGreat

/- The document's own Under of right matrices; kept. -/
namespace Go.Proofs.YteanbflbclmeeaaGreat
open Go.RowKit

theorem OwnB.of_keep {B : Nat} {v : Value} {l : List UInt8} {w w' : World} (h : OwnB B v l w) (hk : ∀ k, B ≤ k → k < w.heap.size → w'.heap[k]? = w.heap[k]?) : OwnB B v l w' := by
  obtain ⟨h1, h2⟩ := h
  refine ⟨h1, ?_⟩
  rcases h2 with h2 | ⟨g, cap, cur, hv, hB, hg, hrest⟩
  · exact .inl h2
  · exact .inr ⟨g, cap, cur, hv, hB, (hk g hB (lt_of_heap hg)).trans hg, hrest⟩
/-- A box whose cells are appended to. -/
structure UnS (b B : Nat) (m c : Int) (v : Value) (l : List UInt8) (wq wr : World) : Prop where
  box : wr.heap[b]? = some (.cells [Value.int .i64 m, .int .i64 c, v].toArray 62 (0, 0))
  own : OwnB B v l wr
  old : Below wq.heap.size wq wr
  res : ResAt wq.heap.size 62 wr
  bB : b < B
  bw : wq.heap.size < b
  le : B ≤ wr.heap.size
theorem UnS.step {b B : Nat} {m c : Int} {v v' : Value} {l l' : List UInt8} {wq wr w' : World} (h : UnS b B m c v l wq wr) (ho : OwnB B v' l' w') (hg : wr.grownBy w' v.ownBlock) : UnS b B m c v' l' wq (w'.setCell ⟨b, 2, none⟩ v') ∧ w'.heap[b]? = some (.cells [Value.int .i64 m, .int .i64 c, v].toArray 62 (0, 0)) ∧ Below wq.heap.size wq w' := by
  have hbB := h.bB
  have hbw := h.bw
  have hle := h.le
  have hne : ∀ k, k < B → some k ≠ v.ownBlock := fun k hk e => by have := (h.own.lt k e.symm).1; omega
  have hb : w'.heap[b]? = some (.cells [Value.int .i64 m, .int .i64 c, v].toArray 62 (0, 0)) := (hg.block b (lt_of_heap h.box) (hne b hbB)).trans h.box
  have hold : Below wq.heap.size wq w' := h.old.grown hg h.old.size (fun k hk => by have := (h.own.lt k hk).1; omega)
  have hs := set_list hb 2 v'
  refine ⟨⟨hs, ho.of_keep fun k hk _ => heap_setCell_other _ _ _ _ (by show k ≠ b; omega), below_kept hold ((Kept.refl w'.heap.size [b] w').setCell (p := ⟨b, 2, none⟩) (by simp) _) (by omega) hold.size, ?_, hbB, hbw, ?_⟩, hb, hold⟩
  · exact (heap_setCell_other _ _ _ _ (by show wq.heap.size ≠ b; omega)).trans ((hg.block _ h.res.lt (hne _ (by omega))).trans h.res)
  · have := hg.size; simp [World.setCell]; omega
set_option maxRecDepth 20000 in
set_option maxHeartbeats 4000000 in
theorem rUnder_good (ra rb c : Int) (b1 o1 la capa b2 o2 lb capb : Nat) (lA lB : List UInt8) (hA : rightB ra c la = true) (hB : rightB rb c lb = true) (hs : ra + rb ≤ 255)
    (hla : lA.length = la) (hlb : lB.length = lb) (w : World) (hX : w.rangeAt b1 o1 (lA.map u8v)) (hb1 : b1 < w.heap.size) (hY : w.rangeAt b2 o2 (lB.map u8v)) (hb2 : b2 < w.heap.size) :
    Calls Tryz.prog 44 #[.agg #[.int .i64 ra, .int .i64 c, .slice (some ⟨b1, o1, none⟩) la capa], .agg #[.int .i64 rb, .int .i64 c, .slice (some ⟨b2, o2, none⟩) lb capb]] w fun e w' => ∃ g cap2, e = .returned (.tuple #[.agg #[.int .i64 (ra + rb), .int .i64 c, .slice (some ⟨g, 0, none⟩) (la + lb) cap2], .int .i64 0]) ∧ Hand (some ⟨g, 0, none⟩) (la + lb) cap2 (lA ++ lB) w' ∧ Below w.heap.size w w' := by
  obtain ⟨⟨p1, p2⟩, ⟨p3, p4⟩, p5⟩ := right_parts hA
  obtain ⟨⟨p6, p7⟩, _, p8⟩ := right_parts hB
  have hq1 : 1 ≤ la ∧ la ≤ 65025 := by
    obtain ⟨rn, rfl⟩ := Int.eq_ofNat_of_zero_le (show 0 ≤ ra by omega)
    obtain ⟨cn, rfl⟩ := Int.eq_ofNat_of_zero_le (show 0 ≤ c by omega)
    have e : la = rn * cn := by have : ((rn * cn : Nat) : Int) = (la : Int) := by rw [p5]; simp
                                omega
    rw [e]; exact ⟨Nat.mul_pos (by omega) (by omega), Nat.mul_le_mul (show rn ≤ 255 by omega) (show cn ≤ 255 by omega)⟩
  have hq2 : 1 ≤ lb ∧ lb ≤ 65025 := by
    obtain ⟨rn, rfl⟩ := Int.eq_ofNat_of_zero_le (show 0 ≤ rb by omega)
    obtain ⟨cn, rfl⟩ := Int.eq_ofNat_of_zero_le (show 0 ≤ c by omega)
    have e : lb = rn * cn := by have : ((rn * cn : Nat) : Int) = (lb : Int) := by rw [p8]; simp
                                omega
    rw [e]; exact ⟨Nat.mul_pos (by omega) (by omega), Nat.mul_le_mul (show rn ≤ 255 by omega) (show cn ≤ 255 by omega)⟩
  have hnb : decide ((255 : Int) < ra + rb) = false := decide_eq_false (by omega)
  have hnc := int_self_ne c
  have hwr : wrap64 (ra + rb) = ra + rb := by unfold wrap64; omega
  clear p3 p4 p5 p8
  obtain ⟨wq, hwq⟩ : ∃ wq, wq = (w.alloc (.cells #[.int .i64 ra, .int .i64 c, .slice (some ⟨b1, o1, none⟩) la capa] 62)).alloc (.cells #[.int .i64 rb, .int .i64 c, .slice (some ⟨b2, o2, none⟩) lb capb] 62) := ⟨_, rfl⟩
  have hbq : Below w.heap.size w wq := by rw [hwq]; exact (below_alloc w _).alloc (by simp) _
  have hsz : wq.heap.size = w.heap.size + 1 + 1 := by rw [hwq]; simp
  have hpre : Pre2 w.heap.size (.int .i64 ra) (.int .i64 c) (.slice (some ⟨b1, o1, none⟩) la capa) (.int .i64 rb) (.int .i64 c) (.slice (some ⟨b2, o2, none⟩) lb capb) wq := by rw [hwq]; exact Pre2.start _ _ _ _ _ _ _
  obtain ⟨wz, hwz⟩ : ∃ wz, wz = wq.alloc (.cells #[.int .i64 0, .int .i64 0, .slice none 0 0] 62) := ⟨_, rfl⟩
  have BZ : Hid (Below wq.heap.size wq wz) := Lib.hid (by rw [hwz]; exact below_alloc _ _)
  have RZ : Hid (ResAt wq.heap.size 62 wz) := Lib.hid (by rw [hwz]; exact heap_alloc_new _ _)
  have HSZ := Lib.hid hsz
  have HPRE := Lib.hid hpre
  have HBQ := Lib.hid hbq
  have HX := Lib.hid hX
  have HY := Lib.hid hY
  have HLA := Lib.hid hla
  have HLB := Lib.hid hlb
  have HWA : Hid (wz = ((w.alloc (.cells #[.int .i64 ra, .int .i64 c, .slice (some ⟨b1, o1, none⟩) la capa] 62)).alloc (.cells #[.int .i64 rb, .int .i64 c, .slice (some ⟨b2, o2, none⟩) lb capb] 62)).alloc (.cells #[.int .i64 0, .int .i64 0, .slice none 0 0] 62)) := Lib.hid (by rw [hwz, hwq])
  have KC : Hid (∀ v, Below wq.heap.size wq v → (v.cell? ⟨w.heap.size, 0, none⟩ = some (.int .i64 ra) ∧ v.cell? ⟨w.heap.size, 1, none⟩ = some (.int .i64 c) ∧ v.cell? ⟨w.heap.size, 2, none⟩ = some (.slice (some ⟨b1, o1, none⟩) la capa)) ∧ (v.cell? ⟨w.heap.size + 1, 0, none⟩ = some (.int .i64 rb) ∧ v.cell? ⟨w.heap.size + 1, 1, none⟩ = some (.int .i64 c) ∧ v.cell? ⟨w.heap.size + 1, 2, none⟩ = some (.slice (some ⟨b2, o2, none⟩) lb capb))) :=
    Lib.hid fun v hv => ⟨heap_cell0 (HPRE.out.below hv).a, heap_cell0 (HPRE.out.below hv).b⟩
  have KX : Hid (∀ v, Below wq.heap.size wq v → (∀ j u, (lA.map u8v)[j]? = some u → v.cell? ((⟨b1, o1, none⟩ : Addr).add j) = some u) ∧ (∀ j u, (lB.map u8v)[j]? = some u → v.cell? ((⟨b2, o2, none⟩ : Addr).add j) = some u)) :=
    Lib.hid fun v hv => ⟨fun j u hu => by rw [Addr.add_mid]; exact (World.cell?_of_block (w := w) (a := ⟨b1, o1 + j, none⟩) ((hv.block b1 (by have := hbq.size; omega)).trans (hbq.block b1 hb1))).trans (HX.out j u hu), fun j u hu => by rw [Addr.add_mid]; exact (World.cell?_of_block (w := w) (a := ⟨b2, o2 + j, none⟩) ((hv.block b2 (by have := hbq.size; omega)).trans (hbq.block b2 hb2))).trans (HY.out j u hu)⟩
  clear hwq hwz hbq hsz hpre hX hY hla hlb
  obtain ⟨⟨d0, d1, d2⟩, ⟨e0, e1, e2⟩⟩ := KC.out _ BZ.out
  go_enter Tryz.func44, Tryz.ntmps44
  go_wp2_with fail
  rw [← HWA.out]
  clear HWA
  go_wp2_with fail
  refine (rRight_any ra c _ la capa _).mono ?_
  rintro e w1 ⟨rfl, hb1'⟩
  rw [hA]
  have B1 := Lib.hid (BZ.out.trans (hb1'.mono BZ.out.size))
  have R1 := Lib.hid (RZ.out.below hb1' RZ.out.lt)
  clear hb1' BZ RZ d0 d1 d2 e0 e1 e2
  obtain ⟨⟨d0, d1, d2⟩, ⟨e0, e1, e2⟩⟩ := KC.out _ B1.out
  go_wp2_with fail
  refine (rRight_any rb c _ lb capb _).mono ?_
  rintro e w2 ⟨rfl, hb2'⟩
  rw [hB]
  have B2 := Lib.hid (B1.out.trans (hb2'.mono B1.out.size))
  have R2 := Lib.hid (R1.out.below hb2' R1.out.lt)
  clear hb2' B1 R1 d0 d1 d2 e0 e1 e2
  obtain ⟨⟨d0, d1, d2⟩, ⟨e0, e1, e2⟩⟩ := KC.out _ B2.out
  go_wp2_with (first | (refine wpList_store_whole rfl 62 _ _ rfl w2.heap.size [.int .i64 (ra + rb), .int .i64 c, .slice none 0 0] zeroRow 62 rfl rfl (heap_alloc_new _ _) rfl (by kernel_rfl) (fun v hv => by simp at hv; rcases hv with rfl | rfl | rfl <;> rfl) ?_; intro w3 h3 k3 s3; have U3 : Hid (UnS w2.heap.size w3.heap.size (ra + rb) c (.slice none 0 0) [] wq w3) := (Lib.hid (have hb := (below_kept (below_alloc w2 _) k3.out (Nat.le_refl _) (by simp) : Below w2.heap.size w2 w3); ⟨h3.out, OwnB.nil _ _, B2.out.trans (hb.mono B2.out.size), R2.out.below hb R2.out.lt, by have := s3.out; simp at this; omega, R2.out.lt, Nat.le_refl _⟩)); clear h3 k3 s3; obtain ⟨f0, f1, f2⟩ := heap_cell0 U3.out.box; have g2 := (KC.out _ U3.out.old).1.2.2; go_frame) | (at_builtin; (refine wpList_append_bytes rfl (.tmp 43) (.tmp 45) rfl w3.heap.size _ [] rfl U3.out.own ⟨b1, o1, none⟩ la capa lA rfl HLA.out (KX.out _ U3.out.old).1 (by simp; omega) (Nat.le_refl _) ?_; intro v4 w4 ho4 hg4; obtain ⟨g4, cap4, hv4, hc4, hgl4, hl4⟩ := (show OwnB w3.heap.size v4 lA w4 from ho4.out).form (by rw [HLA.out]; omega); rw [HLA.out] at hv4 hc4; subst hv4; have U4 := Lib.hid (U3.out.step (show OwnB w3.heap.size _ lA w4 from ho4.out) hg4.out); clear f0 f1 f2 g2 ho4 hg4; obtain ⟨f0, f1, f2⟩ := heap_cell0 U4.out.2.1; have ff := free_of_list U4.out.2.1 2; obtain ⟨p0, p1', p2'⟩ := heap_cell0 U4.out.1.box; have g2 := (KC.out _ U4.out.1.old).2.2.2; go_frame)) | (at_builtin; (refine wpList_append_bytes rfl (.tmp 49) (.tmp 51) rfl w3.heap.size _ lA rfl U4.out.1.own ⟨b2, o2, none⟩ lb capb lB rfl HLB.out (KX.out _ U4.out.1.old).2 (by rw [HLA.out]; omega) U4.out.1.le ?_; intro v6 w6 ho6 hg6; obtain ⟨g6, cap6, hv6, hc6, hgl6, hl6⟩ := (show OwnB w3.heap.size v6 (lA ++ lB) w6 from ho6.out).form (by rw [List.length_append, HLA.out]; omega); rw [List.length_append, HLA.out, HLB.out] at hv6 hc6; subst hv6; have U6 := Lib.hid (U4.out.1.step (show OwnB w3.heap.size _ (lA ++ lB) w6 from ho6.out) hg6.out); clear f0 f1 f2 ff p0 p1' p2' g2 ho6 hg6; obtain ⟨f0, f1, f2⟩ := heap_cell0 U6.out.2.1; have ff := free_of_list U6.out.2.1 2; obtain ⟨p0, p1', p2'⟩ := heap_cell0 U6.out.1.box; go_frame)) | ((refine wpList_store_whole rfl 62 _ _ rfl (w.heap.size + 1 + 1) [.int .i64 (ra + rb), .int .i64 c, .slice (some ⟨g6, 0, none⟩) (la + lb) cap6] zeroRow 62 rfl rfl (by rw [← HSZ.out]; exact U6.out.1.res) rfl (by kernel_rfl) (fun v hv => by simp at hv; rcases hv with rfl | rfl | rfl <;> rfl) ?_; intro w9 h9 k9 s9; go_frame)))
  have hh := HSZ.out
  have hu := U6.out.1.bB
  have hv := U6.out.1.bw
  refine bodyPost_ret (results_mid2 Tryz.results44 _ _ (w.heap.size + 1 + 1) 0 [.int .i64 (ra + rb), .int .i64 c, .slice (some ⟨g6, 0, none⟩) (la + lb) cap6] _ rfl (range_of_list h9.out) Tryz.underlying62 rfl (by kernel_rfl)) rfl ⟨g6, cap6, rfl, ⟨by rw [List.length_append, HLA.out, HLB.out], by omega, fun _ => ⟨g6, 0, rfl, ?_, fun k u hu => ?_⟩⟩, ?_⟩
  · have := s9.out; have := hl6; simp [World.setCell] at *; omega
  · have hk : w9.heap[g6]? = w6.heap[g6]? := (k9.out.block g6 (by simp [World.setCell]; omega) (by simp; omega)).trans (heap_setCell_other _ _ _ _ (by show g6 ≠ w2.heap.size; omega))
    have ho := U6.out.1.own
    have := World.ownsRow.cells ho (g := g6) rfl k u hu
    rw [Addr.add_mid] at this
    exact (World.cell?_of_block (a := ⟨g6, 0 + k, none⟩) (k9.out.block g6 (by simp [World.setCell]; omega) (by simp; omega))).trans this
  · exact below_kept (HBQ.out.trans (U6.out.1.old.mono HBQ.out.size)) k9.out (by omega) (HBQ.out.trans (U6.out.1.old.mono HBQ.out.size)).size
theorem flat_under (r1 r2 c : Nat) (lA lB : List UInt8) (hA : lA.length = r1 * c) (hB : lB.length = r2 * c) (hc : 1 ≤ c) : flat (underM r1 (matOf c lA) (matOf c lB)) (r1 + r2) c = lA ++ lB := by
  apply List.ext_getElem?
  intro k
  by_cases hk : k < (r1 + r2) * c
  · rw [flat_some _ _ _ _ hk]
    have hd := Nat.div_add_mod k c
    have hm := Nat.mod_lt k (show c > 0 by omega)
    unfold underM
    by_cases h1 : k / c < r1
    · have hlt : k < r1 * c := (Nat.div_lt_iff_lt_mul (by omega)).1 h1
      rw [if_pos h1, List.getElem?_append_left (by omega)]
      unfold matOf
      rw [show k / c * c + k % c = k by rw [Nat.mul_comm]; exact hd, List.getD, List.getElem?_eq_getElem (by omega)]; rfl
    · have hle : r1 * c ≤ k := by
        refine Nat.le_of_not_lt fun h => h1 ((Nat.div_lt_iff_lt_mul (by omega)).2 h)
      rw [if_neg h1, List.getElem?_append_right (by omega), hA]
      unfold matOf
      have : (k / c - r1) * c + k % c = k - r1 * c := by
        rw [Nat.sub_mul, Nat.mul_comm (k / c) c]
        have : r1 * c ≤ c * (k / c) := by rw [Nat.mul_comm c]; exact Nat.mul_le_mul_right c (by omega)
        omega
      rw [this, List.getD]
      have hlt : k - r1 * c < lB.length := by rw [hB]; rw [Nat.add_mul] at hk; omega
      rw [List.getElem?_eq_getElem hlt]; rfl
  · rw [List.getElem?_eq_none (by rw [length_flat]; omega), List.getElem?_eq_none (by rw [List.length_append, hA, hB, ← Nat.add_mul]; omega)]
end Go.Proofs.YteanbflbclmeeaaGreat

/- The document's own swap. -/
namespace Go.Proofs.YteanbflbclmeeaaGreat
open Go.RowKit

/-- A matrix whose cells lie at the beginning of a block. -/
structure TS (g : Nat) (sp : List Value) (M : Mat) (r c : Nat) (v : World) : Prop where
  at_ : v.heap[g]? = some (.cells ((flat M r c).map u8v ++ sp).toArray 5 (0, 0))
theorem TS.keep {g : Nat} {sp : List Value} {M : Mat} {r c : Nat} {v v' : World} (h : TS g sp M r c v) (hk : v'.heap[g]? = v.heap[g]?) : TS g sp M r c v' := ⟨hk.trans h.at_⟩
theorem TS.lt {g : Nat} {sp : List Value} {M : Mat} {r c : Nat} {v : World} (h : TS g sp M r c v) : g < v.heap.size := lt_of_heap h.at_
theorem TS.alike {g : Nat} {sp : List Value} {M M' : Mat} {r c : Nat} {v : World} (h : TS g sp M r c v) (ha : Alike r c M M') : TS g sp M' r c v := ⟨by rw [← flat_alike ha]; exact h.at_⟩
theorem TS.src {g : Nat} {sp : List Value} {M : Mat} {r c : Nat} {v : World} (h : TS g sp M r c v) : Src g 0 M r c v := fun j u hu => by
  have hj : j < ((flat M r c).map u8v).length := (List.getElem?_eq_some_iff.1 hu).1
  rw [Nat.zero_add, cell_of_list h.at_, List.getElem?_append_left hj]; exact hu
theorem TS.cell {g : Nat} {sp : List Value} {M : Mat} {r c : Nat} {v : World} (h : TS g sp M r c v) {i j : Nat} (hi : i < r) (hj : j < c) : v.cell? ⟨g, i * c + j, none⟩ = some (.int .u8 (M i j).toNat) := by
  have := h.src.cell hi hj
  rw [Nat.zero_add] at this; exact this
theorem TS.set {g : Nat} {sp : List Value} {M : Mat} {r c : Nat} {v : World} (h : TS g sp M r c v) {i j : Nat} (hi : i < r) (hj : j < c) (x : UInt8) : TS g sp (setM i j x M) r c (v.setCell ⟨g, i * c + j, none⟩ (.int .u8 x.toNat)) := by
  refine ⟨?_⟩
  have hl : i * c + j < ((flat M r c).map u8v).length := by rw [List.length_map, length_flat]; exact at_lt hi hj
  rw [set_list h.at_ (i * c + j) (.int .u8 x.toNat), List.set_append_left _ _ hl, ← flat_set M x hi hj, List.map_set]; rfl
/-- The box of such a matrix. -/
structure DnB (B g r c N cap : Nat) (sp : List Value) (M : Mat) (w0 v : World) : Prop where
  box : v.heap[B]? = some (.cells [Value.int .i64 r, .int .i64 c, .slice (some ⟨g, 0, none⟩) N cap].toArray 62 (0, 0))
  tab : TS g sp M r c v
  old : Kept w0.heap.size [g] w0 v
  ne : B ≠ g
theorem DnB.alike {B g r c N cap : Nat} {sp : List Value} {M M' : Mat} {w0 v : World} (h : DnB B g r c N cap sp M w0 v) (ha : Alike r c M M') : DnB B g r c N cap sp M' w0 v := ⟨h.box, h.tab.alike ha, h.old, h.ne⟩
theorem drewN_kept {B : Nat} {ws : List Nat} {a w : World} (h : Kept B ws a w) (m : Nat) : Kept B ws a (w.drewN m) := h.trans (Kept.of_below (below_drewN (Below.refl _ _) m))
theorem DnB.drewN {B g r c N cap : Nat} {sp : List Value} {M : Mat} {w0 v : World} (h : DnB B g r c N cap sp M w0 v) (m : Nat) : DnB B g r c N cap sp M w0 (v.drewN m) := ⟨h.box, ⟨h.tab.at_⟩, drewN_kept h.old m, h.ne⟩
theorem DnB.below {B g r c N cap : Nat} {sp : List Value} {M : Mat} {w0 v v' : World} (h : DnB B g r c N cap sp M w0 v) (hb : Below v.heap.size v v') : DnB B g r c N cap sp M w0 v' :=
  ⟨(hb.block _ (lt_of_heap h.box)).trans h.box, h.tab.keep (hb.block g h.tab.lt), h.old.trans ((Kept.of_below hb).mono h.old.size (fun _ _ h => h)), h.ne⟩
theorem DnB.change {B g r c N cap : Nat} {sp : List Value} {M M' : Mat} {w0 v v' : World} (h : DnB B g r c N cap sp M w0 v) (ht : TS g sp M' r c v') (hk : Kept v.heap.size [g] v v') : DnB B g r c N cap sp M' w0 v' :=
  ⟨(hk.block _ (lt_of_heap h.box) (by simp; exact h.ne)).trans h.box, ht, h.old.trans (hk.mono h.old.size (fun _ _ h => h)), h.ne⟩
theorem DnB.set {B g r c N cap : Nat} {sp : List Value} {M : Mat} {w0 v : World} (h : DnB B g r c N cap sp M w0 v) {i j : Nat} (hi : i < r) (hj : j < c) (x : UInt8) : DnB B g r c N cap sp (setM i j x M) w0 (v.setCell ⟨g, i * c + j, none⟩ (.int .u8 x.toNat)) :=
  h.change (h.tab.set hi hj x) ((Kept.refl _ _ _).setCell (p := ⟨g, i * c + j, none⟩) (by simp) _)
theorem DnB.set' {B g r c N cap : Nat} {sp : List Value} {M : Mat} {w0 v : World} (h : DnB B g r c N cap sp M w0 v) {i j A E : Nat} (hA : i * c = A) (hE : A + j = E) (hi : i < r) (hj : j < c) (x : UInt8) : DnB B g r c N cap sp (setM i j x M) w0 (v.setCell ⟨g, E, none⟩ (.int .u8 x.toNat)) := by
  have := h.set hi hj x
  rw [hA, hE] at this; exact this
theorem TS.cell' {g : Nat} {sp : List Value} {M : Mat} {r c : Nat} {v : World} (h : TS g sp M r c v) {i j A E : Nat} (hA : i * c = A) (hE : A + j = E) (hi : i < r) (hj : j < c) : v.cell? ⟨g, E, none⟩ = some (.int .u8 (M i j).toNat) := by
  have := h.cell hi hj
  rw [hA, hE] at this; exact this
def swpTo (p q t : Nat) (M : Mat) : Mat := fun a b => if b < t then swapR p q M a b else M a b
theorem swpTo_zero (p q : Nat) (M : Mat) : swpTo p q 0 M = M := by funext a b; unfold swpTo; rw [if_neg (by omega)]
theorem swpTo_all (p q : Nat) {r c : Nat} (M : Mat) : Alike r c (swpTo p q c M) (swapR p q M) := fun a b _ hb => by unfold swpTo; rw [if_pos hb]
theorem swpTo_at (p q t : Nat) (M : Mat) (a : Nat) : swpTo p q t M a t = M a t := by unfold swpTo; rw [if_neg (by omega)]
theorem swpTo_step (p q t : Nat) (M : Mat) : setM q t (M p t) (setM p t (M q t) (swpTo p q t M)) = swpTo p q (t + 1) M := by
  funext a b
  unfold setM swpTo swapR swp
  by_cases h1 : a = q ∧ b = t
  · rw [if_pos h1, if_pos (by omega), h1.1, h1.2]
    by_cases h : q = p
    · rw [if_pos h, h]
    · rw [if_neg h, if_pos rfl]
  · rw [if_neg h1]
    by_cases h2 : a = p ∧ b = t
    · rw [if_pos h2, if_pos (by omega), if_pos h2.1, h2.2]
    · rw [if_neg h2]
      by_cases h3 : b < t
      · have h5 : b < t + 1 := by omega
        simp only [h3, h5, if_true]
      · rw [if_neg h3]
        by_cases h4 : b < t + 1
        · have : b = t := by omega
          rw [if_pos h4, if_neg (fun h => h2 ⟨h, this⟩), if_neg (fun h => h1 ⟨h, this⟩)]
        · rw [if_neg h4]
attribute [local go_sem high] g_xor
set_option maxRecDepth 20000 in
set_option maxHeartbeats 4000000 in
theorem rSwap_any (g r c N cap p q : Nat) (sp : List Value) (M : Mat) (hN : r * c = N) (hmax : N ≤ 1000000) (hcm : c ≤ 1000000) (hp : p < r) (hq : q < r) (w : World) (h : TS g sp M r c w) :
    Calls Tryz.prog 70 #[.agg #[.int .i64 r, .int .i64 c, .slice (some ⟨g, 0, none⟩) N cap], .int .i64 p, .int .i64 q] w fun e w' => e = .returned (.tuple #[]) ∧ TS g sp (swapR p q M) r c w' ∧ Kept w.heap.size [g] w w' := by
  obtain ⟨A, hA⟩ : ∃ A, p * c = A := ⟨_, rfl⟩
  obtain ⟨D, hD⟩ : ∃ D, q * c = D := ⟨_, rfl⟩
  have fA := row_fits hN hA hp
  have fD := row_fits hN hD hq
  obtain ⟨wa, hwa⟩ : ∃ wa, wa = w.alloc (.cells #[.int .i64 r, .int .i64 c, .slice (some ⟨g, 0, none⟩) N cap] 62) := ⟨_, rfl⟩
  have hgl := h.lt
  have H0 : Hid (DnB w.heap.size g r c N cap sp (swpTo p q 0 M) w wa) := Lib.hid (by
    rw [hwa, swpTo_zero]
    exact ⟨heap_alloc_new _ _, h.keep (heap_alloc_old _ _ hgl), Kept.of_below (below_alloc _ _), by omega⟩)
  have HWA := Lib.hid hwa
  have HA := Lib.hid hA
  have HD := Lib.hid hD
  have hA6 : A ≤ 1000000 := by omega
  have hD6 : D ≤ 1000000 := by omega
  have EA := Lib.hid (mulV hA hA6)
  have ED := Lib.hid (mulV hD hD6)
  have EAI := Lib.hid (mul_wrapI hA hA6)
  have EDI := Lib.hid (mul_wrapI hD hD6)
  clear hwa hA hD h hN
  go_enter Tryz.func70, Tryz.ntmps70
  go_wp2_with fail
  rw [← HWA.out]
  clear HWA
  go_loopw [6] (fun kv wr => ∃ k : Nat, k ≤ c ∧ kv = .int .i64 k ∧ DnB w.heap.size g r c N cap sp (swpTo p q k M) w wr) (fun kv _ => c - (intOf kv).toNat)
  case atStart => exact ⟨0, by omega, rfl, H0.out⟩
  case round =>
    clear H0
    obtain ⟨k, hk, rfl, hB⟩ := hrel
    have H1 := Lib.hid hB
    clear hB
    obtain ⟨d0, d1, d2⟩ := heap_cell0 H1.out.box
    by_cases hlt : k < c
    · obtain ⟨E, hE⟩ : ∃ E, A + k = E := ⟨_, rfl⟩
      obtain ⟨G, hG⟩ : ∃ G, D + k = G := ⟨_, rfl⟩
      obtain ⟨x, hx⟩ : ∃ x, x = M p k := ⟨_, rfl⟩
      obtain ⟨y, hy⟩ : ∃ y, y = M q k := ⟨_, rfl⟩
      have cx : wr.cell? ⟨g, E, none⟩ = some (.int .u8 x.toNat) := by
        have := H1.out.tab.cell' HA.out hE hp hlt
        rw [swpTo_at, ← hx] at this; exact this
      have cy : wr.cell? ⟨g, G, none⟩ = some (.int .u8 y.toNat) := by
        have := H1.out.tab.cell' HD.out hG hq hlt
        rw [swpTo_at, ← hy] at this; exact this
      have fr := free_of_list H1.out.tab.at_ E
      have u1 : E < N := by omega
      have u2 : G < N := by omega
      have HE := Lib.hid hE
      have HG := Lib.hid hG
      have HX := Lib.hid hx
      have HY := Lib.hid hy
      have hE6 : E ≤ 1000000 := by omega
      have hG6 : G ≤ 1000000 := by omega
      have eE := addV hE hE6
      have eG := addV hG hG6
      have eEI := add_wrapI hE hE6
      have eGI := add_wrapI hG hG6
      have eA := EA.out
      have eD := ED.out
      have eAI := EAI.out
      have eDI := EDI.out
      clear hE hG hx hy
      go_wp2_with fail
      refine wp_region_quiet_end (by kernel_rfl) rfl rfl (by kernel_rfl) (by kernel_rfl) (by kernel_rfl) ?_
      simp only [initL, lastL, List.cons_append, List.nil_append, Oper.mute]
      repeat (go_big_quiet_step (fail))
      refine wpQuiet_nil ?_
      rintro _ ⟨nq, rfl⟩
      obtain ⟨w5, hw5⟩ : ∃ w5, w5 = wr.drewN nq := ⟨_, rfl⟩
      have H5 : Hid (DnB w.heap.size g r c N cap sp (swpTo p q k M) w w5) := Lib.hid (by rw [hw5]; exact H1.out.drewN nq)
      rw [← hw5]
      clear hw5 d0 d1 d2 cx cy fr H1
      have H6 : Hid (DnB w.heap.size g r c N cap sp (setM p k y (swpTo p q k M)) w (w5.setCell ⟨g, E, none⟩ (.int .u8 y.toNat))) := Lib.hid (H5.out.set' HA.out HE.out hp hlt y)
      have H7 : Hid (DnB w.heap.size g r c N cap sp (swpTo p q (k + 1) M) w ((w5.setCell ⟨g, E, none⟩ (.int .u8 y.toNat)).setCell ⟨g, G, none⟩ (.int .u8 x.toNat))) := Lib.hid (by
        have := H6.out.set' HD.out HG.out hq hlt x
        rw [HX.out, HY.out, swpTo_step] at this
        rw [HX.out, HY.out]; exact this)
      have cx : ∃ z, w5.cell? ⟨g, E, none⟩ = some z := ⟨_, H5.out.tab.cell' HA.out HE.out hp hlt⟩
      obtain ⟨z, cx⟩ := cx
      have fr := free_of_list H5.out.tab.at_ E
      obtain ⟨w6, hw6⟩ : ∃ w6, w6 = w5.setCell ⟨g, E, none⟩ (.int .u8 y.toNat) := ⟨_, rfl⟩
      rw [← hw6] at H6 H7
      go_simp
      rw [← hw6]
      clear hw6 cx fr H5
      obtain ⟨d0, d1, d2⟩ := heap_cell0 H6.out.box
      have cx : ∃ z, w6.cell? ⟨g, G, none⟩ = some z := ⟨_, H6.out.tab.cell' HD.out HG.out hq hlt⟩
      obtain ⟨z2, cx⟩ := cx
      have fr := free_of_list H6.out.tab.at_ G
      go_wp2_with fail
      clear eE eG eEI eGI eA eD eAI eDI
      go_roundw
      case rel => exact ⟨k + 1, by omega, by go_num, H7.out⟩
      case measure => simp [intOf]; omega
    · obtain rfl : k = c := by omega
      go_wp2_with fail
      go_end0
      exact ⟨rfl, H1.out.tab.alike (swpTo_all _ _ _), H1.out.old⟩
end Go.Proofs.YteanbflbclmeeaaGreat

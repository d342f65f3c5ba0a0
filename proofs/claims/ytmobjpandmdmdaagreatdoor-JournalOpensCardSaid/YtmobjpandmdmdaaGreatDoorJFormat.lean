/- The walks of blank, Format and Open at a power without a fuse. -/
import Derived.Test.YtmobjpandmdmdaaGreatDoorJReset
namespace Go.Proofs.YtmobjpandmdmdaaGreatDoor
open Go.RowKit

set_option maxRecDepth 100000 in
set_option maxHeartbeats 2000000 in
theorem blank_free (d p n : Nat) (F : List Nat) (st : St) (c from_ m : Nat) (hm : from_ + 2 * m ≤ n) (hm1 : 1 ≤ m) (hc : c ≤ 1000000) (w : World) (h : Jd d p n F st c w) :
    Calls Tryz.prog 38 #[rowV d from_ m, .int .i64 1] w fun e w' => e = .returned .nilIface ∧ ∃ F' st', Jp d p n F' st' (c + 1) w' ∧ (∀ x, st'.view x = if x = from_ + m then z64 else st.view x) ∧ Mv [p] F F' w w' := by
  have hn := h.n2
  obtain ⟨b, hb⟩ : ∃ b, b = from_ + m := ⟨_, rfl⟩
  have hbn : b < n := by omega
  have hD := does_free h.free (.put b z64)
  have hV := view_did h.ok (o := .put b z64) ⟨hbn, length_z64⟩
  have CS := Lib.hid (fun y : World => (show Calls Tryz.prog 53 #[.agg #[.pointer (some ⟨d, 0, none⟩), .int .i64 from_, .int .i64 m], .int .i64 1] y (fun e w' => e = .returned (.int .i64 b) ∧ Below y.heap.size y w') by rw [hb]; exact start_1 d from_ m (by omega) y))
  have CW := Lib.hid (fun (q : Nat) (y : World) (hp : Pen d p q n F st true y) => write_any d p q n F st true b [z64] (wide_one length_z64) (by rw [List.length_singleton]; omega) hn y hp (h.jp.fit hc _ (by simp)))
  rw [show ([z64] : List (List UInt8)).flatten = z64 from by simp, show doAll (st, true) (puts b [z64]) = (st.did (.put b z64), true) from hD.1] at CW
  have H := Lib.hid h
  have HV := Lib.hid hV
  have HD2 := Lib.hid hD.2
  rw [← hb]
  have hFl := h.dsk.Flt
  have hpl := h.dsk.pow.lt
  clear h hV hD hb
  unfold rowV
  go_enter Tryz.func38, Tryz.ntmps38
  go_wp2_with (first | (refine wpList_alloc rfl 108 rfl _ allocPen ?_; go_frame) | fail)
  obtain ⟨q, hq⟩ : ∃ q, q = w.heap.size + 1 := ⟨_, rfl⟩
  obtain ⟨w2, hw2⟩ : ∃ x, x = (w.alloc (.cells #[Value.pointer (some ⟨d, 0, none⟩), .int .i64 from_, .int .i64 m] 72)).alloc (.cells #[Value.pointer (some ⟨d, 0, none⟩), .nilIface] 108) := ⟨_, rfl⟩
  rw [← hq, ← hw2]
  have hb2 : Below w.heap.size w w2 := by rw [hw2]; exact ((Below.refl _ _).alloc (Nat.le_refl _) _).alloc (by simp) _
  have hp2 : w2.heap[q]? = some (.cells [Value.pointer (some ⟨d, 0, none⟩), .nilIface].toArray 108 (0, 0)) := by rw [hw2, hq]; exact heap_alloc2_new _ _ _
  have hP2 : Pen d p q n F st true w2 := Pen.new (H.out.dsk.below hb2) hp2 (fun hm => by have := hFl q hm; omega) (by omega)
  have HP := Lib.hid hP2
  have HB := Lib.hid hb2
  have HQ := Lib.hid hq
  clear hw2 hp2 hP2 hb2 hq
  go_wp2_with (first | (go_at_call 53; refine (CS.out _).mono ?_; rintro e w3 ⟨rfl, hb3⟩; have HP3 := Lib.hid (HP.out.below hb3); have HB3 := Lib.hid (HB.out.trans (hb3.mono HB.out.size)); clear hb3) | (go_at_call 60; refine (empty_any _).mono ?_; rintro e w4 ⟨rfl, hb4⟩; have HP4 := Lib.hid (HP3.out.below hb4); have HB4 := Lib.hid (HB3.out.trans (hb4.mono HB3.out.size)); clear hb4) | (go_at_call 59; refine (CW.out q _ HP4.out).mono ?_; rintro e w5 ⟨rfl, F5, h5, m5⟩; have HP5 := Lib.hid h5; have HM5 := Lib.hid ((Mv.below [q, p] F HB4.out).trans m5); have c1 : w5.cell? ⟨q, 1, none⟩ = some .nilIface := (by rw [cell_of_list h5.fine]; rfl); clear h5 m5) | (go_at_call 54; refine (wrapped_nil _).mono ?_; rintro e w6 ⟨rfl, hb6⟩; have HB6 := Lib.hid hb6; clear hb6) | fail)
  go_ret
  have hqw := HQ.out
  refine ⟨rfl, F5, st.did (.put b z64), ⟨HP5.out.dsk.below HB6.out, HD2.out, ?_, ?_, ?_⟩, fun x => ?_, ?_⟩
  · show (st.ps ++ [(b, z64)]).length ≤ 5
    rw [H.out.ps]; simp
  · have := H.out.a0; show 0 ≤ st.acts + 1; omega
  · have := H.out.a1; show st.acts + 1 ≤ _; push_cast; omega
  · rw [HV.out]; rfl
  · exact (HM5.out.more (Y := [p]) (fun x hx => by
      simp only [List.mem_cons, List.not_mem_nil, or_false] at hx
      rcases hx with rfl | rfl
      · exact Or.inr (by omega)
      · exact Or.inl (by simp))).trans (Mv.below _ _ HB6.out)
theorem Mv.weak {X Y F F' : List Nat} {w w' : World} (h : Mv X F F' w w') (hs : ∀ x ∈ X, x ∈ Y) : Mv Y F F' w w' := h.more (fun x hx => Or.inl (hs x hx))
set_option maxRecDepth 100000 in
set_option maxHeartbeats 2000000 in
theorem Format_free (d p n : Nat) (F : List Nat) (st : St) (c from_ m : Nat) (fi si : Int) (hfi : fi = from_) (hsi : si = (2 * m : Nat)) (hm : from_ + 2 * m ≤ n) (hm2 : 2 ≤ m) (hc : c ≤ 100000) (w : World) (h : Jd d p n F st c w) :
    Calls Tryz.prog 12 #[.pointer (some ⟨d, 0, none⟩), .int .i64 fi, .int .i64 si] w fun e w' => ∃ j F' st', w.heap.size ≤ j ∧ e = .returned (.tuple #[.pointer (some ⟨j, 0, none⟩), .nilIface]) ∧ j ∉ F' ∧ Jd d p n F' st' (c + 2) w' ∧ JAt j d from_ m 0 1 1 1 false w' ∧
      JOn st'.view from_ m 0 1 [] ∧ (∀ x, x < from_ ∨ from_ + 2 * m ≤ x → st'.view x = st.view x) ∧ Mv [p] F F' w w' := by
  have hn := h.n2
  subst hfi hsi
  have CR := Lib.hid (rowOf_ok d p n F st from_ m hm2 hm hn w h.dsk.liv)
  unfold rowV at CR
  have CB := Lib.hid (fun (y : World) (hy : Below w.heap.size w y) => blank_free d p n F st c from_ m hm (by omega) (by omega) y (h.below hy))
  unfold rowV at CB
  have H := Lib.hid h
  have hFl := h.dsk.Flt
  have hpl := h.dsk.pow.lt
  clear h
  go_enter Tryz.func12, Tryz.ntmps12
  go_wp2_with (first | (go_at_call 36; refine CR.out.mono ?_; rintro e w1 ⟨rfl, hb1⟩; have HB1 := Lib.hid hb1; clear hb1) | fail)
  obtain ⟨j, hj⟩ : ∃ j, j = w1.heap.size + 1 := ⟨_, rfl⟩
  obtain ⟨w2, hw2⟩ : ∃ x, x = (w1.alloc (.cells #[Value.pointer (some ⟨d, 0, none⟩), .int .i64 from_, .int .i64 m] 72)).alloc (.cells #[Value.pointer (some ⟨d, 0, none⟩), .int .i64 from_, .int .i64 m, .int .i64 1, .int .i64 0, .int .i64 0, .int .i64 0, .bool false] 80) := ⟨_, rfl⟩
  rw [← hj, ← hw2]
  have hz1 := HB1.out.size
  have hb2 : Below w.heap.size w w2 := by rw [hw2]; exact (HB1.out.alloc hz1 _).alloc (by simp; omega) _
  have hJ2 : JAt j d from_ m 1 0 0 0 false w2 := by rw [hw2, hj]; exact heap_alloc2_new _ _ _
  have hjw : w.heap.size ≤ j := by omega
  have hjF : j ∉ F := fun hm => by have := hFl j hm; omega
  have hjp : j ≠ p := by omega
  have HB2 := Lib.hid hb2
  have HJ2 := Lib.hid hJ2
  clear hw2 hb2 hJ2 hj
  refine (CB.out _ HB2.out).mono ?_
  rintro e w3 ⟨rfl, F3, st3, hP3, hV3, hM3⟩
  have hz2 := HB2.out.size
  have hjF3 : j ∉ F3 := fun hm => by
    rcases hM3.foot j hm with h1 | h1
    · exact hjF h1
    · have := HJ2.out.lt; omega
  have HJ3 := Lib.hid (HJ2.out.keep (hM3.block HJ2.out.lt (by simpa using hjp) hjF))
  have HP3 := Lib.hid hP3
  have HV3 := Lib.hid hV3
  have HM3 := Lib.hid ((Mv.below [p] F HB2.out).trans hM3)
  clear hP3 hV3 hM3
  go_wp2_with fail
  refine (Reset_free d p n F3 st3 (c + 1) from_ m 1 0 0 0 [] j _ hm (by omega) (by omega) (by omega) (by intro r hr; cases hr) (by rw [secsAll_nil]; omega) _ HP3.out HJ3.out ⟨0, by rw [HV3.out, Nat.one_mul, if_pos rfl]; exact epoch_z, by omega⟩ hjF3 hjp (Texts.nil _)).mono ?_
  rintro e w4 ⟨rfl, F4, st4, hD4, hJ4, hO4, hV4, hM4⟩
  have hjF4 : j ∉ F4 := fun hm => by
    rcases hM4.foot j hm with h1 | h1
    · exact hjF3 h1
    · have := HJ3.out.lt; omega
  have HD4 := Lib.hid hD4
  have HJ4 := Lib.hid hJ4
  have HO4 := Lib.hid hO4
  have HV4 := Lib.hid hV4
  have HM4 := Lib.hid hM4
  clear hD4 hJ4 hO4 hV4 hM4
  go_wp2_with fail
  go_ret2
  have hJx := HJ4.out
  rw [secsAll_nil] at hJx
  refine ⟨j, F4, st4, hjw, rfl, hjF4, HD4.out, hJx, HO4.out, fun x hx => ?_, ?_⟩
  · rw [HV4.out x hx, HV3.out, if_neg (by omega)]
  · exact ((HM3.out.weak (Y := [p, j]) (fun x hx => by simp at hx; simp [hx])).trans HM4.out).more (fun x hx => by
      simp only [List.mem_cons, List.not_mem_nil, or_false] at hx
      rcases hx with rfl | rfl
      · exact Or.inl (by simp)
      · exact Or.inr hjw)
set_option maxRecDepth 100000 in
set_option maxHeartbeats 2000000 in
theorem Open_is (d p n : Nat) (F : List Nat) (st : St) (c from_ m act ep : Nat) (recs : List (List UInt8)) (fi si : Int) (hfi : fi = from_) (hsi : si = (2 * m : Nat)) (hm : from_ + 2 * m ≤ n) (hm2 : 2 ≤ m) (w : World) (h : Jd d p n F st c w) (hO : JOn st.view from_ m act ep recs) :
    Calls Tryz.prog 11 #[.pointer (some ⟨d, 0, none⟩), .int .i64 fi, .int .i64 si] w fun e w' => ∃ j v, w.heap.size ≤ j ∧ e = .returned (.tuple #[.pointer (some ⟨j, 0, none⟩), v, .nilIface]) ∧ Jd d p n F st c w' ∧ JAt j d from_ m act ep (1 + recs.length) (1 + secsAll recs) false w' ∧
      w'.ownsRow w.heap.size 9 1 v recs.length (recs.map strv) ∧ Below w.heap.size w w' := by
  have hn := h.n2
  subst hfi hsi
  obtain ⟨tail, hR⟩ := hO.right h.ps
  have CR := Lib.hid (rowOf_ok d p n F st from_ m hm2 hm hn w h.dsk.liv)
  unfold rowV at CR
  have CFI := Lib.hid (fun (y : World) (hy : Below w.heap.size w y) => find_is d p n F st from_ m act ep recs tail hm hm2 hn h.ps hR y (h.dsk.below hy))
  unfold rowV at CFI
  have H := Lib.hid h
  have hll := length_le_secsAll recs
  have hus := hO.used
  clear h hO hR
  go_enter Tryz.func11, Tryz.ntmps11
  go_wp2_with (first | (go_at_call 36; refine CR.out.mono ?_; rintro e w1 ⟨rfl, hb1⟩; have HB1 := Lib.hid hb1; clear hb1) | fail)
  have hz1 := HB1.out.size
  refine (CFI.out _ (HB1.out.alloc hz1 _)).mono ?_
  rintro e w3 ⟨v, rfl, hown, hD3, hb3⟩
  have hz3 := hb3.size
  have HB3 := Lib.hid ((HB1.out.alloc hz1 _).trans (hb3.mono (by simp; omega)))
  have HO3 := Lib.hid hown
  have g0 : w3.heap[w1.heap.size]? = some (.cells [Value.pointer (some ⟨d, 0, none⟩), .int .i64 from_, .int .i64 m].toArray 72 (0, 0)) := (hb3.block w1.heap.size (by simp)).trans (heap_alloc_new _ _)
  have c0 : w3.cell? ⟨w1.heap.size, 0, none⟩ = some (.pointer (some ⟨d, 0, none⟩)) := by rw [cell_of_list g0]; rfl
  have c1 : w3.cell? ⟨w1.heap.size, 1, none⟩ = some (.int .i64 from_) := by rw [cell_of_list g0]; rfl
  have c2 : w3.cell? ⟨w1.heap.size, 2, none⟩ = some (.int .i64 m) := by rw [cell_of_list g0]; rfl
  have hlt := lt_of_heap g0
  have HD3 := Lib.hid hD3
  clear hown hD3 hb3 g0
  have hz30 := HB3.out.size
  unfold stV
  go_wp2_with fail
  go_ret3
  refine ⟨w3.heap.size + 1, v, by omega, rfl, ?_, ?_, own_low (own_below (own_below HO3.out ((Below.refl _ _).alloc (Nat.le_refl _) _)) ((Below.refl _ _).alloc (Nat.le_refl _) _)) (by simp; omega), (HB3.out.alloc hz30 _).alloc (by simp; omega) _⟩
  · exact ⟨(HD3.out.below ((Below.refl _ _).alloc (Nat.le_refl _) _)).below ((Below.refl _ _).alloc (Nat.le_refl _) _), H.out.free, H.out.ps, H.out.a0, H.out.a1⟩
  · exact heap_alloc2_new _ _ _
end Go.Proofs.YtmobjpandmdmdaaGreatDoor

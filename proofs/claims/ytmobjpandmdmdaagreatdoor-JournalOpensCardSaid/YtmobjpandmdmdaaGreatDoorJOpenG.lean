/- Open of whatever stands on the sectors; what is refused. -/
import Derived.Test.YtmobjpandmdmdaaGreatDoorJFindG
import Derived.Test.YtmobjpandmdmdaaGreatDoorJFormat
namespace Go.Proofs.YtmobjpandmdmdaaGreatDoor
open Go.RowKit

set_option maxRecDepth 100000 in
set_option maxHeartbeats 2000000 in
theorem Open_gen (d p n : Nat) (F : List Nat) (st : St) (c from_ m act ep : Nat) (recs : List (List UInt8)) (fi si : Int) (hfi : fi = from_) (hsi : si = (2 * m : Nat)) (hm : from_ + 2 * m ≤ n) (hm2 : 2 ≤ m) (w : World) (h : Jd d p n F st c w) (hR : RightG st.S from_ m act ep recs) (he1 : 1 ≤ ep) :
    Calls Tryz.prog 11 #[.pointer (some ⟨d, 0, none⟩), .int .i64 fi, .int .i64 si] w fun e w' => ∃ j v, w.heap.size ≤ j ∧ e = .returned (.tuple #[.pointer (some ⟨j, 0, none⟩), v, .nilIface]) ∧ Jd d p n F st c w' ∧ JAt j d from_ m act ep (1 + recs.length) (1 + secsAll recs) false w' ∧
      w'.ownsRow w.heap.size 9 1 v recs.length (recs.map strv) ∧ Below w.heap.size w w' := by
  have hn := h.n2
  subst hfi hsi
  have CR := Lib.hid (rowOf_ok d p n F st from_ m hm2 hm hn w h.dsk.liv)
  unfold rowV at CR
  have CFI := Lib.hid (fun (y : World) (hy : Below w.heap.size w y) => find_gen d p n F st from_ m act ep recs hm hm2 hn h.ps hR he1 y (h.dsk.below hy))
  unfold rowV at CFI
  have H := Lib.hid h
  have hll := length_le_secsAll recs
  clear h hR
  go_enter Tryz.func11, Tryz.ntmps11
  go_wp2_with (first | (go_at_call 36; refine CR.out.mono ?_; rintro e w1 ⟨rfl, hb1⟩; have HB1 := Lib.hid hb1; clear hb1) | fail)
  have hz1 := HB1.out.size
  refine (CFI.out _ (HB1.out.alloc hz1 _)).mono ?_
  rintro e w3 ⟨v, rfl, hown, hD3, hb3⟩
  have hz3 := hb3.size
  have HB3 := Lib.hid ((HB1.out.alloc hz1 _).trans (hb3.mono (by simp; omega)))
  have HO3 := Lib.hid hown
  have g0 : w3.heap[w1.heap.size]? = some (.cells [Value.pointer (some ⟨d, 0, none⟩), .int .i64 from_, .int .i64 m].toArray 72 (0, 0)) := (hb3.block w1.heap.size (by simp)).trans (heap_alloc_new _ _)
  have c0 : w3.cell? ⟨w1.heap.size, 0, none⟩ = some (.pointer (some ⟨d, 0, none⟩)) := by rw [cell_of_list g0]; rfl
  have c1 : w3.cell? ⟨w1.heap.size, 1, none⟩ = some (.int .i64 from_) := by rw [cell_of_list g0]; rfl
  have c2 : w3.cell? ⟨w1.heap.size, 2, none⟩ = some (.int .i64 m) := by rw [cell_of_list g0]; rfl
  have hlt := lt_of_heap g0
  have HD3 := Lib.hid hD3
  clear hown hD3 hb3 g0
  have hz30 := HB3.out.size
  unfold stV
  go_wp2_with fail
  go_ret3
  refine ⟨w3.heap.size + 1, v, by omega, rfl, ?_, ?_, own_low (own_below (own_below HO3.out ((Below.refl _ _).alloc (Nat.le_refl _) _)) ((Below.refl _ _).alloc (Nat.le_refl _) _)) (by simp; omega), (HB3.out.alloc hz30 _).alloc (by simp; omega) _⟩
  · exact ⟨(HD3.out.below ((Below.refl _ _).alloc (Nat.le_refl _) _)).below ((Below.refl _ _).alloc (Nat.le_refl _) _), H.out.free, H.out.ps, H.out.a0, H.out.a1⟩
  · exact heap_alloc2_new _ _ _
set_option maxRecDepth 100000 in
set_option maxHeartbeats 2000000 in
theorem Open_blank (d p n : Nat) (F : List Nat) (st : St) (c from_ m act : Nat) (recs : List (List UInt8)) (fi si : Int) (hfi : fi = from_) (hsi : si = (2 * m : Nat)) (hm : from_ + 2 * m ≤ n) (hm2 : 2 ≤ m) (w : World) (h : Jd d p n F st c w) (hR : RightG st.S from_ m act 0 recs) :
    Calls Tryz.prog 11 #[.pointer (some ⟨d, 0, none⟩), .int .i64 fi, .int .i64 si] w (Refused 15 0 (fun v => .tuple #[.pointer none, .slice none 0 0, v]) w) := by
  have hn := h.n2
  subst hfi hsi
  have CR := Lib.hid (rowOf_ok d p n F st from_ m hm2 hm hn w h.dsk.liv)
  unfold rowV at CR
  have CFI := Lib.hid (fun (y : World) (hy : Below w.heap.size w y) => find_blank d p n F st from_ m act 0 recs hm hm2 hn h.ps hR rfl y (h.dsk.below hy))
  unfold rowV at CFI
  clear h hR
  go_enter Tryz.func11, Tryz.ntmps11
  go_wp2_with (first | (go_at_call 36; refine CR.out.mono ?_; rintro e w1 ⟨rfl, hb1⟩; have HB1 := Lib.hid hb1; clear hb1) | fail)
  have hz1 := HB1.out.size
  refine (CFI.out _ (HB1.out.alloc hz1 _)).mono ?_
  rintro e w3 ⟨g, hg, rfl, hf, hb3⟩
  have hz3 := hb3.size
  have HB3 := Lib.hid ((HB1.out.alloc hz1 _).trans (hb3.mono (by simp; omega)))
  have HF := Lib.hid hf
  have hgl : w.heap.size ≤ g := by simp at hg; omega
  clear hf hb3
  unfold stV
  go_wp2_with fail
  go_ret3
  exact ⟨g, hgl, rfl, (((Below.refl w3.heap.size w3).alloc (Nat.le_refl _) _).block g (lt_of_heap HF.out)).trans HF.out, HB3.out.alloc HB3.out.size _⟩
/-- Sectors that a journal may not have. -/
def BadRow (f s n : Int) : Prop := f < 0 ∨ s < 4 ∨ s % 2 ≠ 0 ∨ n - f < s
set_option maxRecDepth 100000 in
set_option maxHeartbeats 2000000 in
theorem rowOf_bad (d p n : Nat) (F : List Nat) (st : St) (f s : Int) (hf1 : -9223372036854775808 ≤ f) (hf2 : f ≤ 9223372036854775807) (hs1 : -9223372036854775808 ≤ s) (hs2 : s ≤ 9223372036854775807) (hn2 : n ≤ 8192) (hb : BadRow f s n) (w : World) (h : Live d p F n st.S st.ps 0 w) :
    Calls Tryz.prog 36 #[.pointer (some ⟨d, 0, none⟩), .int .i64 f, .int .i64 s] w (Refused 1 0 (fun v => .tuple #[.agg #[.pointer none, .int .i64 0, .int .i64 0], v]) w) := by
  have CS := Lib.hid (fun (v : World) (hb : Below w.heap.size w v) => Sectors_any d p F n st.S st.ps 0 v (h.below hb))
  unfold BadRow at hb
  clear h
  by_cases h1 : f < 0
  · clear hb
    go_enter Tryz.func36, Tryz.ntmps36
    go_wp2_with (first | (go_at_call 44; refine (Jfault_is 1 _).mono ?_; rintro e w5 ⟨g, hg, rfl, hf, hb5⟩; have HG := Lib.hid hg; have HFA := Lib.hid hf; have HB5 := Lib.hid hb5; have h5 : w5.heap[w.heap.size]? = some (.cells [Value.pointer none, .int .i64 0, .int .i64 0].toArray 72 (0, 0)) := (hb5.block _ (by simp)).trans (heap_alloc_new _ _); have k0 : w5.cell? ⟨w.heap.size, 0, none⟩ = some (.pointer none) := cell_of_list h5 0; have k1 : w5.cell? ⟨w.heap.size, 1, none⟩ = some (.int .i64 0) := cell_of_list h5 1; have k2 : w5.cell? ⟨w.heap.size, 2, none⟩ = some (.int .i64 0) := cell_of_list h5 2; have kf := free_of_list h5; have H5 := Lib.hid h5; clear hg hf hb5 h5) | (go_at_call 51; refine (CS.out _ ((Below.refl _ _).alloc (Nat.le_refl _) _)).mono ?_; rintro e w' ⟨rfl, rfl⟩))
    have hset := set_list (set_list (set_list H5.out 0 (.pointer none)) 1 (.int .i64 0)) 2 (.int .i64 0)
    have hk : Kept w5.heap.size [w.heap.size] w5 (((w5.setCell ⟨w.heap.size, 0, none⟩ (.pointer none)).setCell ⟨w.heap.size, 1, none⟩ (.int .i64 0)).setCell ⟨w.heap.size, 2, none⟩ (.int .i64 0)) := (((Kept.refl _ _ _).setCell (p := ⟨w.heap.size, 0, none⟩) (by simp) _).setCell (p := ⟨w.heap.size, 1, none⟩) (by simp) _).setCell (p := ⟨w.heap.size, 2, none⟩) (by simp) _
    have hgw : w.heap.size < g := by have := HG.out; simp at this; omega
    have hb1 : Below w.heap.size w w5 := ((Below.refl w.heap.size w).alloc (Nat.le_refl _) _).trans (HB5.out.mono (by simp))
    refine bodyPost_ret (results_mid2 Tryz.results36 _ _ w.heap.size 0 _ _ rfl (range_of_list hset) Tryz.underlying72 rfl (by kernel_rfl)) rfl ⟨g, by omega, rfl, (hk.block g (lt_of_heap HFA.out) (by simp; omega)).trans HFA.out, ?_⟩
    exact ((hb1.setCell (p := ⟨w.heap.size, 0, none⟩) (Nat.le_refl _) _).setCell (p := ⟨w.heap.size, 1, none⟩) (Nat.le_refl _) _).setCell (p := ⟨w.heap.size, 2, none⟩) (Nat.le_refl _) _
  · by_cases h2 : s < 4
    · clear hb
      go_enter Tryz.func36, Tryz.ntmps36
      go_wp2_with (first | (go_at_call 44; refine (Jfault_is 1 _).mono ?_; rintro e w5 ⟨g, hg, rfl, hf, hb5⟩; have HG := Lib.hid hg; have HFA := Lib.hid hf; have HB5 := Lib.hid hb5; have h5 : w5.heap[w.heap.size]? = some (.cells [Value.pointer none, .int .i64 0, .int .i64 0].toArray 72 (0, 0)) := (hb5.block _ (by simp)).trans (heap_alloc_new _ _); have k0 : w5.cell? ⟨w.heap.size, 0, none⟩ = some (.pointer none) := cell_of_list h5 0; have k1 : w5.cell? ⟨w.heap.size, 1, none⟩ = some (.int .i64 0) := cell_of_list h5 1; have k2 : w5.cell? ⟨w.heap.size, 2, none⟩ = some (.int .i64 0) := cell_of_list h5 2; have kf := free_of_list h5; have H5 := Lib.hid h5; clear hg hf hb5 h5) | (go_at_call 51; refine (CS.out _ ((Below.refl _ _).alloc (Nat.le_refl _) _)).mono ?_; rintro e w' ⟨rfl, rfl⟩))
      have hset := set_list (set_list (set_list H5.out 0 (.pointer none)) 1 (.int .i64 0)) 2 (.int .i64 0)
      have hk : Kept w5.heap.size [w.heap.size] w5 (((w5.setCell ⟨w.heap.size, 0, none⟩ (.pointer none)).setCell ⟨w.heap.size, 1, none⟩ (.int .i64 0)).setCell ⟨w.heap.size, 2, none⟩ (.int .i64 0)) := (((Kept.refl _ _ _).setCell (p := ⟨w.heap.size, 0, none⟩) (by simp) _).setCell (p := ⟨w.heap.size, 1, none⟩) (by simp) _).setCell (p := ⟨w.heap.size, 2, none⟩) (by simp) _
      have hgw : w.heap.size < g := by have := HG.out; simp at this; omega
      have hb1 : Below w.heap.size w w5 := ((Below.refl w.heap.size w).alloc (Nat.le_refl _) _).trans (HB5.out.mono (by simp))
      refine bodyPost_ret (results_mid2 Tryz.results36 _ _ w.heap.size 0 _ _ rfl (range_of_list hset) Tryz.underlying72 rfl (by kernel_rfl)) rfl ⟨g, by omega, rfl, (hk.block g (lt_of_heap HFA.out) (by simp; omega)).trans HFA.out, ?_⟩
      exact ((hb1.setCell (p := ⟨w.heap.size, 0, none⟩) (Nat.le_refl _) _).setCell (p := ⟨w.heap.size, 1, none⟩) (Nat.le_refl _) _).setCell (p := ⟨w.heap.size, 2, none⟩) (Nat.le_refl _) _
    · by_cases h3 : s % 2 ≠ 0
      · have h3' : s.tmod 2 ≠ 0 := by rw [Int.tmod_eq_emod_of_nonneg (by omega)]; exact h3
        have e3 : (s % 2 == 0) = false := by rw [beq_eq_false_iff_ne]; exact h3
        have e3' : (s.tmod 2 == 0) = false := by rw [beq_eq_false_iff_ne]; exact h3'
        clear hb
        go_enter Tryz.func36, Tryz.ntmps36
        go_wp2_with (first | (go_at_call 44; refine (Jfault_is 1 _).mono ?_; rintro e w5 ⟨g, hg, rfl, hf, hb5⟩; have HG := Lib.hid hg; have HFA := Lib.hid hf; have HB5 := Lib.hid hb5; have h5 : w5.heap[w.heap.size]? = some (.cells [Value.pointer none, .int .i64 0, .int .i64 0].toArray 72 (0, 0)) := (hb5.block _ (by simp)).trans (heap_alloc_new _ _); have k0 : w5.cell? ⟨w.heap.size, 0, none⟩ = some (.pointer none) := cell_of_list h5 0; have k1 : w5.cell? ⟨w.heap.size, 1, none⟩ = some (.int .i64 0) := cell_of_list h5 1; have k2 : w5.cell? ⟨w.heap.size, 2, none⟩ = some (.int .i64 0) := cell_of_list h5 2; have kf := free_of_list h5; have H5 := Lib.hid h5; clear hg hf hb5 h5) | (go_at_call 51; refine (CS.out _ ((Below.refl _ _).alloc (Nat.le_refl _) _)).mono ?_; rintro e w' ⟨rfl, rfl⟩))
        have hset := set_list (set_list (set_list H5.out 0 (.pointer none)) 1 (.int .i64 0)) 2 (.int .i64 0)
        have hk : Kept w5.heap.size [w.heap.size] w5 (((w5.setCell ⟨w.heap.size, 0, none⟩ (.pointer none)).setCell ⟨w.heap.size, 1, none⟩ (.int .i64 0)).setCell ⟨w.heap.size, 2, none⟩ (.int .i64 0)) := (((Kept.refl _ _ _).setCell (p := ⟨w.heap.size, 0, none⟩) (by simp) _).setCell (p := ⟨w.heap.size, 1, none⟩) (by simp) _).setCell (p := ⟨w.heap.size, 2, none⟩) (by simp) _
        have hgw : w.heap.size < g := by have := HG.out; simp at this; omega
        have hb1 : Below w.heap.size w w5 := ((Below.refl w.heap.size w).alloc (Nat.le_refl _) _).trans (HB5.out.mono (by simp))
        refine bodyPost_ret (results_mid2 Tryz.results36 _ _ w.heap.size 0 _ _ rfl (range_of_list hset) Tryz.underlying72 rfl (by kernel_rfl)) rfl ⟨g, by omega, rfl, (hk.block g (lt_of_heap HFA.out) (by simp; omega)).trans HFA.out, ?_⟩
        exact ((hb1.setCell (p := ⟨w.heap.size, 0, none⟩) (Nat.le_refl _) _).setCell (p := ⟨w.heap.size, 1, none⟩) (Nat.le_refl _) _).setCell (p := ⟨w.heap.size, 2, none⟩) (Nat.le_refl _) _
      · have h3' : s.tmod 2 = 0 := by rw [Int.tmod_eq_emod_of_nonneg (by omega)]; omega
        have h3'' : s % 2 = 0 := by omega
        have h4 : (n : Int) - f < s := by omega
        clear hb h3
        go_enter Tryz.func36, Tryz.ntmps36
        go_wp2_with (first | (go_at_call 44; refine (Jfault_is 1 _).mono ?_; rintro e w5 ⟨g, hg, rfl, hf, hb5⟩; have HG := Lib.hid hg; have HFA := Lib.hid hf; have HB5 := Lib.hid hb5; have h5 : w5.heap[w.heap.size]? = some (.cells [Value.pointer none, .int .i64 0, .int .i64 0].toArray 72 (0, 0)) := (hb5.block _ (by simp)).trans (heap_alloc_new _ _); have k0 : w5.cell? ⟨w.heap.size, 0, none⟩ = some (.pointer none) := cell_of_list h5 0; have k1 : w5.cell? ⟨w.heap.size, 1, none⟩ = some (.int .i64 0) := cell_of_list h5 1; have k2 : w5.cell? ⟨w.heap.size, 2, none⟩ = some (.int .i64 0) := cell_of_list h5 2; have kf := free_of_list h5; have H5 := Lib.hid h5; clear hg hf hb5 h5) | (go_at_call 51; refine (CS.out _ ((Below.refl _ _).alloc (Nat.le_refl _) _)).mono ?_; rintro e w' ⟨rfl, rfl⟩))
        have hset := set_list (set_list (set_list H5.out 0 (.pointer none)) 1 (.int .i64 0)) 2 (.int .i64 0)
        have hk : Kept w5.heap.size [w.heap.size] w5 (((w5.setCell ⟨w.heap.size, 0, none⟩ (.pointer none)).setCell ⟨w.heap.size, 1, none⟩ (.int .i64 0)).setCell ⟨w.heap.size, 2, none⟩ (.int .i64 0)) := (((Kept.refl _ _ _).setCell (p := ⟨w.heap.size, 0, none⟩) (by simp) _).setCell (p := ⟨w.heap.size, 1, none⟩) (by simp) _).setCell (p := ⟨w.heap.size, 2, none⟩) (by simp) _
        have hgw : w.heap.size < g := by have := HG.out; simp at this; omega
        have hb1 : Below w.heap.size w w5 := ((Below.refl w.heap.size w).alloc (Nat.le_refl _) _).trans (HB5.out.mono (by simp))
        refine bodyPost_ret (results_mid2 Tryz.results36 _ _ w.heap.size 0 _ _ rfl (range_of_list hset) Tryz.underlying72 rfl (by kernel_rfl)) rfl ⟨g, by omega, rfl, (hk.block g (lt_of_heap HFA.out) (by simp; omega)).trans HFA.out, ?_⟩
        exact ((hb1.setCell (p := ⟨w.heap.size, 0, none⟩) (Nat.le_refl _) _).setCell (p := ⟨w.heap.size, 1, none⟩) (Nat.le_refl _) _).setCell (p := ⟨w.heap.size, 2, none⟩) (Nat.le_refl _) _
theorem bad_free (n : Nat) (f s : Int) (h : ¬ BadRow f s n) : ∃ from_ m : Nat, f = from_ ∧ s = (2 * m : Nat) ∧ 2 ≤ m ∧ from_ + 2 * m ≤ n := by
  unfold BadRow at h
  exact ⟨f.toNat, (s / 2).toNat, by omega, by omega, by omega, by omega⟩
end Go.Proofs.YtmobjpandmdmdaaGreatDoor

/- The walk of the HMAC. -/
import Derived.Test.YtjalmmhbjilabaaMac
import Derived.Test.YtjalmmhbjilabaaWhole
namespace Go.Proofs.Ytjalmmhbjilabaa
open Go.RowKit

theorem size_mk (l : List UInt8) : (ByteArray.mk l.toArray).size = l.length := by simp [ByteArray.size]
theorem masked_at (s : ByteArray) (x : Int) (m : UInt8) (hx : x = m.toNat) (hs : s.size ≤ 64) (w : World) :
    Calls Try.prog 39 #[.string s, .int .u8 x] w fun e w' => e = .returned (.string ⟨(Dig.masked s.data.toList m).toArray⟩) ∧ Below w.heap.size w w' := by
  subst hx; exact masked_any s m hs w
/-- The same, the text under a name of its own. -/
theorem masked_q (s : ByteArray) (x : Int) (m : UInt8) (hx : x = m.toNat) (hs : s.size ≤ 64) (w : World) :
    Calls Try.prog 39 #[.string s, .int .u8 x] w fun e w' => ∃ q : ByteArray, e = .returned (.string q) ∧ Hid (q = ⟨(Dig.masked s.data.toList m).toArray⟩) ∧ q.size ≤ 64 ∧ Below w.heap.size w w' :=
  (masked_at s x m hx hs w).mono fun _ _ ⟨he, hb⟩ => ⟨_, he, rfl, by rw [size_mk, Dig.length_masked _ _ (by rw [size_toList]; exact hs)]; omega, hb⟩
theorem Sum256_q (s : ByteArray) (hs : s.size ≤ 400000000000000) (w : World) :
    Calls Try.prog 12 #[.string s] w fun e w' => ∃ q : ByteArray, e = .returned (.string q) ∧ Hid (q = ⟨(Dig.sum256 s.data.toList).toArray⟩) ∧ q.size ≤ 64 ∧ Below w.heap.size w w' :=
  (Sum256_any s hs w).mono fun _ _ ⟨he, hb⟩ => ⟨_, he, rfl, by rw [size_mk, Dig.length_sum256]; omega, hb⟩
theorem end256_q (told rs : List UInt8) (hbig : told.length ≤ 500000000000000) (hrs : rs.length = 64) (ht : rs.take (told.length % 64) = told.drop (told.length / 64 * 64)) (w : World) :
    Calls Try.prog 34 #[.agg ((Dig.fold Dig.turn256 Dig.h256 (told.take (told.length / 64 * 64))).map u32v).toArray, .agg (tailCells told.length rs []).toArray] w fun e w' =>
      ∃ q : ByteArray, e = .returned (.string q) ∧ Hid (q = ⟨(Dig.sum256 told).toArray⟩) ∧ q.size ≤ 32 ∧ Below w.heap.size w w' :=
  (end256_any told rs hbig hrs ht w).mono fun _ _ ⟨he, hb⟩ => ⟨_, he, rfl, by rw [size_mk, Dig.length_sum256]; omega, hb⟩
attribute [local go_sem ↓] run_load_whole
set_option maxHeartbeats 1000000 in
/-- From where both keys' lengths meet. -/
theorem MAC_short (k s : ByteArray) (hk : k.size ≤ 64) (hs : s.size ≤ 300000000000000) (w : World) :
    Calls Try.prog 20 #[.string k, .string s] w fun e w' => e = .returned (.string ⟨(Dig.sum256 (Dig.masked k.data.toList 0x5c ++ Dig.sum256 (Dig.masked k.data.toList 0x36 ++ s.data.toList))).toArray⟩) ∧ Below w.heap.size w w' := by
  obtain ⟨et, het⟩ : ∃ et, et = emptyTail := ⟨_, rfl⟩
  have HE := Lib.hid het
  have ha := allocTail
  rw [← het] at ha
  clear het
  go_enter Try.func20, Try.ntmps20
  go_wp2_with (first | (go_at_call 28; refine (start256_any _).mono ?_; rintro e w1 ⟨rfl, hb1⟩; have hz := hb1.size) | (go_at_call 39; fail) | (refine wpList_alloc rfl 50 rfl et ha ?_; go_frame; (try simp only [World.size_alloc])) | (refine wpList_alloc rfl 42 rfl (zeros 8) alloc8 ?_; go_frame) | (refine wpList_store_new rfl 42 _ _ rfl w1.heap.size (Dig.h256.map u32v) (zeros 8) 42 rfl rfl (heap_alloc_new _ _) (by simp [length_zeros, Dig.length_h256]) (by rw [List.length_map, Dig.length_h256]; kernel_rfl) (u32_ones _) ?_; go_frame) | fail)
  obtain ⟨w2, hw2⟩ : ∃ w2, w2 = (w1.alloc (.cells (zeros 8).toArray 42)).setCells w1.heap.size 0 (Dig.h256.map u32v) := ⟨_, rfl⟩
  rw [← hw2]
  have hz' : w.heap.size + 1 ≤ w1.heap.size := by simpa using hz
  have g0 : w2.heap[w.heap.size]? = some (.cells et.toArray 50 (0, 0)) := by
    rw [hw2, setCells_other (by omega), heap_alloc_old _ _ (by omega), hb1.block _ (by simp)]; exact heap_alloc_new _ _
  have g1 : w2.heap[w1.heap.size]? = some (.cells (Dig.h256.map u32v).toArray 42 (0, 0)) := by
    rw [hw2, setCells_list _ _ _ _ (heap_alloc_new _ _), laid_whole _ _ (by simp [length_zeros, Dig.length_h256])]
  have hb2 : Below w.heap.size w w2 := by
    rw [hw2]; exact below_setCells ((((Below.refl _ _).alloc (Nat.le_refl _) _).trans (hb1.mono (by simp))).alloc (by omega) _) (by omega) _ _
  have hT : Told w.heap.size 50 (Made256 w1.heap.size) [] w2 := told_empty (by rw [← HE.out]; exact g0) ⟨rfl, by rw [Dig.fold_nil]; exact g1⟩
  have hs2 : w1.heap.size < w2.heap.size := lt_of_heap g1
  clear hw2 g0 g1 hb1 hz ha
  refine (masked_at k _ 0x36 (by rfl) hk _).mono ?_
  rintro e w3 ⟨rfl, hb3⟩
  have hT3 : Told w.heap.size 50 (Made256 w1.heap.size) [] w3 := told_below hT hb3 (by omega) (fun l R h => ⟨h.1, (hb3.block _ hs2).trans h.2⟩)
  have hB3 : Below w.heap.size w w3 := hb2.trans (hb3.mono hb2.size)
  have hml := Dig.length_masked k.data.toList 0x36 (by rw [size_toList]; exact hk)
  obtain ⟨mk, hmk⟩ : ∃ mk, mk = Dig.masked k.data.toList 0x36 := ⟨_, rfl⟩
  rw [← hmk] at hml ⊢
  have hs3 : w1.heap.size < w3.heap.size := by have := hb3.size; omega
  clear hT hb2 hb3 hs2
  have HMK := Lib.hid hmk
  have HML := Lib.hid hml
  have HB3 := Lib.hid hB3
  have HT3 := Lib.hid hT3
  clear hmk hml hB3 hT3
  go_wp2_with fail
  refine (add_any 32 _ _ _ _ _ _ (takes256 w.heap.size w1.heap.size 50 (by omega)) [] ⟨mk.toArray⟩ (by rw [size_mk, HML.out]; decide) _ HT3.out).mono ?_
  rintro e w4 ⟨rfl, hT4, hk4⟩
  rw [List.nil_append] at hT4
  have HT4 := Lib.hid hT4
  have HK4 := Lib.hid hk4
  clear hT4 hk4
  go_wp2_with fail
  refine (add_any 32 _ _ _ _ _ _ (takes256 w.heap.size w1.heap.size 50 (by omega)) mk s (by rw [HML.out]; omega) _ HT4.out).mono ?_
  rintro e w5 ⟨rfl, hT5, hk5⟩
  obtain ⟨rs, R, hrs, ht, hg, hR, hS⟩ := hT5
  subst hR
  obtain ⟨told, htold⟩ : ∃ told, told = mk ++ s.data.toList := ⟨_, rfl⟩
  rw [← htold] at ht hg hS
  have hws : ∀ v ∈ [w.heap.size, w1.heap.size], w.heap.size ≤ v := by simp; omega
  have hb4 : Below w.heap.size w w4 := HB3.out.trans ((HK4.out.mono (B := w.heap.size) HB3.out.size (fun _ _ h => h)).below hws)
  have hb5 : Below w.heap.size w w5 := hb4.trans ((hk5.mono (B := w.heap.size) hb4.size (fun _ _ h => h)).below hws)
  obtain ⟨tc, htc⟩ : ∃ tc, tc = tailCells told.length rs [] := ⟨_, rfl⟩
  rw [← htc] at hg
  obtain ⟨W, hWd⟩ : ∃ W, W = Dig.fold Dig.turn256 Dig.h256 (told.take (told.length / 64 * 64)) := ⟨_, rfl⟩
  have hWl : (Try.prog.info? 42).map (·.size) = some (W.map u32v).length := by rw [List.length_map, hWd, Dig.length_fold256]; kernel_rfl
  rw [← hWd] at hS
  have htl : (Try.prog.info? 50).map (·.size) = some tc.length := by rw [htc]; simp only [tailCells, List.length_cons, List.length_append, List.length_map, hrs, List.length_nil]; kernel_rfl
  have htb : told.length ≤ 500000000000000 := by rw [htold, List.length_append, HML.out, size_toList]; omega
  have hR0 := two_mk (P := Try.prog) hS Try.underlying42 rfl hWl hg Try.underlying50 rfl htl
  have hR3 := Lib.hid (show w1.heap.size < w5.heap.size ∧ w.heap.size < w5.heap.size from ⟨lt_of_heap hS, lt_of_heap hg⟩)
  have H1 := Lib.hid htold
  have H2 := Lib.hid htc
  have H3 := Lib.hid hWd
  have HT := Lib.hid ht
  have HB := Lib.hid hb5
  have HR := Lib.hid hrs
  clear htold htc hWd hS hg ht hb4 hb5 hrs hk5 HT4 HK4 hws HB3 HT3 HE hs3
  clear hWl htl
  have HR0 := Lib.hid hR0
  clear hR0
  go_wp2_with fail
  go_region_held3 (fun w' => TwoS Try.prog 42 50 w5 w1.heap.size w.heap.size (W.map u32v) tc w') (first | assumption | exact two_drew HR0.out | exact two_drew (by assumption) | exact two_step hR3 (by assumption) (by assumption)) (first | (go_at_call 39; refine (masked_q k _ 0x5c (by rfl) hk _).mono ?_; rintro e w6 ⟨q1, rfl, hq1, hz1, hb6⟩; try (have hsum : ¬ 9223372036854775807 < q1.size + q2.size := by omega)) | (go_at_call 34; rw [H3.out, H2.out]; refine (end256_q told rs htb HR.out HT.out _).mono ?_; rintro e w7 ⟨q2, rfl, hq2, hz2, hb7⟩; try (have hsum : ¬ 9223372036854775807 < q1.size + q2.size := by omega)) | (go_at_call 12; refine (Sum256_any _ (by rw [ByteArray.size_append]; omega) _).mono ?_; rintro e w8 ⟨rfl, hb8⟩))
  go_wp2
  go_ret
  have b5 := HB.out
  have b6 : Below w.heap.size w w6 := b5.drew.trans (hb6.mono b5.size)
  have b7 : Below w.heap.size w w7 := b6.trans (hb7.mono b6.size)
  refine ⟨?_, b7.trans (hb8.mono b7.size)⟩
  rw [← HMK.out, ← H1.out]
  have e1 : q1.data.toList = Dig.masked k.data.toList 0x5c := by rw [hq1.out]
  have e2 : q2.data.toList = Dig.sum256 told := by rw [hq2.out]
  rw [← e1, ← e2]
  rfl

set_option maxHeartbeats 1000000 in
/-- A key that is longer than a block counts as its sum. -/
theorem MAC_long (k s : ByteArray) (hk0 : 64 < k.size) (hk1 : k.size ≤ 300000000000000) (hs : s.size ≤ 300000000000000) (w : World) :
    Calls Try.prog 20 #[.string k, .string s] w fun e w' => e = .returned (.string ⟨(Dig.sum256 (Dig.masked (Dig.sum256 k.data.toList) 0x5c ++ Dig.sum256 (Dig.masked (Dig.sum256 k.data.toList) 0x36 ++ s.data.toList))).toArray⟩) ∧ Below w.heap.size w w' := by
  obtain ⟨et, het⟩ : ∃ et, et = emptyTail := ⟨_, rfl⟩
  have HE := Lib.hid het
  have ha := allocTail
  rw [← het] at ha
  clear het
  go_enter Try.func20, Try.ntmps20
  go_wp2_with (first | (go_at_call 12; refine (Sum256_q k (by omega) _).mono ?_; rintro e w0 ⟨kk, rfl, hkk, hk, hb0⟩) | (go_at_call 28; refine (start256_any _).mono ?_; rintro e w1 ⟨rfl, hb1⟩; have hz := hb1.size) | (go_at_call 39; fail) | (refine wpList_alloc rfl 50 rfl et ha ?_; go_frame; (try simp only [World.size_alloc])) | (refine wpList_alloc rfl 42 rfl (zeros 8) alloc8 ?_; go_frame) | (refine wpList_store_new rfl 42 _ _ rfl w1.heap.size (Dig.h256.map u32v) (zeros 8) 42 rfl rfl (heap_alloc_new _ _) (by simp [length_zeros, Dig.length_h256]) (by rw [List.length_map, Dig.length_h256]; kernel_rfl) (u32_ones _) ?_; go_frame) | fail)
  obtain ⟨w2, hw2⟩ : ∃ w2, w2 = (w1.alloc (.cells (zeros 8).toArray 42)).setCells w1.heap.size 0 (Dig.h256.map u32v) := ⟨_, rfl⟩
  rw [← hw2]
  have hz' : w0.heap.size + 1 ≤ w1.heap.size := by simpa using hz
  have g0 : w2.heap[w0.heap.size]? = some (.cells et.toArray 50 (0, 0)) := by
    rw [hw2, setCells_other (by omega), heap_alloc_old _ _ (by omega), hb1.block _ (by simp)]; exact heap_alloc_new _ _
  have g1 : w2.heap[w1.heap.size]? = some (.cells (Dig.h256.map u32v).toArray 42 (0, 0)) := by
    rw [hw2, setCells_list _ _ _ _ (heap_alloc_new _ _), laid_whole _ _ (by simp [length_zeros, Dig.length_h256])]
  have hb2 : Below w0.heap.size w0 w2 := by
    rw [hw2]; exact below_setCells ((((Below.refl _ _).alloc (Nat.le_refl _) _).trans (hb1.mono (by simp))).alloc (by omega) _) (by omega) _ _
  have hT : Told w0.heap.size 50 (Made256 w1.heap.size) [] w2 := told_empty (by rw [← HE.out]; exact g0) ⟨rfl, by rw [Dig.fold_nil]; exact g1⟩
  have hs2 : w1.heap.size < w2.heap.size := lt_of_heap g1
  clear hw2 g0 g1 hb1 hz ha
  refine (masked_at kk _ 0x36 (by rfl) hk _).mono ?_
  rintro e w3 ⟨rfl, hb3⟩
  have hT3 : Told w0.heap.size 50 (Made256 w1.heap.size) [] w3 := told_below hT hb3 (by omega) (fun l R h => ⟨h.1, (hb3.block _ hs2).trans h.2⟩)
  have hB3 : Below w0.heap.size w0 w3 := hb2.trans (hb3.mono hb2.size)
  have hml := Dig.length_masked kk.data.toList 0x36 (by rw [size_toList]; exact hk)
  obtain ⟨mk, hmk⟩ : ∃ mk, mk = Dig.masked kk.data.toList 0x36 := ⟨_, rfl⟩
  rw [← hmk] at hml ⊢
  have hs3 : w1.heap.size < w3.heap.size := by have := hb3.size; omega
  clear hT hb2 hb3 hs2
  have HMK := Lib.hid hmk
  have HML := Lib.hid hml
  have HB3 := Lib.hid hB3
  have HT3 := Lib.hid hT3
  clear hmk hml hB3 hT3
  go_wp2_with fail
  refine (add_any 32 _ _ _ _ _ _ (takes256 w0.heap.size w1.heap.size 50 (by omega)) [] ⟨mk.toArray⟩ (by rw [size_mk, HML.out]; decide) _ HT3.out).mono ?_
  rintro e w4 ⟨rfl, hT4, hk4⟩
  rw [List.nil_append] at hT4
  have HT4 := Lib.hid hT4
  have HK4 := Lib.hid hk4
  clear hT4 hk4
  go_wp2_with fail
  refine (add_any 32 _ _ _ _ _ _ (takes256 w0.heap.size w1.heap.size 50 (by omega)) mk s (by rw [HML.out]; omega) _ HT4.out).mono ?_
  rintro e w5 ⟨rfl, hT5, hk5⟩
  obtain ⟨rs, R, hrs, ht, hg, hR, hS⟩ := hT5
  subst hR
  obtain ⟨told, htold⟩ : ∃ told, told = mk ++ s.data.toList := ⟨_, rfl⟩
  rw [← htold] at ht hg hS
  have hws : ∀ v ∈ [w0.heap.size, w1.heap.size], w0.heap.size ≤ v := by simp; omega
  have hb4 : Below w0.heap.size w0 w4 := HB3.out.trans ((HK4.out.mono (B := w0.heap.size) HB3.out.size (fun _ _ h => h)).below hws)
  have hb5 : Below w0.heap.size w0 w5 := hb4.trans ((hk5.mono (B := w0.heap.size) hb4.size (fun _ _ h => h)).below hws)
  obtain ⟨tc, htc⟩ : ∃ tc, tc = tailCells told.length rs [] := ⟨_, rfl⟩
  rw [← htc] at hg
  obtain ⟨W, hWd⟩ : ∃ W, W = Dig.fold Dig.turn256 Dig.h256 (told.take (told.length / 64 * 64)) := ⟨_, rfl⟩
  have hWl : (Try.prog.info? 42).map (·.size) = some (W.map u32v).length := by rw [List.length_map, hWd, Dig.length_fold256]; kernel_rfl
  rw [← hWd] at hS
  have htl : (Try.prog.info? 50).map (·.size) = some tc.length := by rw [htc]; simp only [tailCells, List.length_cons, List.length_append, List.length_map, hrs, List.length_nil]; kernel_rfl
  have htb : told.length ≤ 500000000000000 := by rw [htold, List.length_append, HML.out, size_toList]; omega
  have hR0 := two_mk (P := Try.prog) hS Try.underlying42 rfl hWl hg Try.underlying50 rfl htl
  have hR3 := Lib.hid (show w1.heap.size < w5.heap.size ∧ w0.heap.size < w5.heap.size from ⟨lt_of_heap hS, lt_of_heap hg⟩)
  have H1 := Lib.hid htold
  have H2 := Lib.hid htc
  have H3 := Lib.hid hWd
  have HT := Lib.hid ht
  have HB := Lib.hid hb5
  have HR := Lib.hid hrs
  clear htold htc hWd hS hg ht hb4 hb5 hrs hk5 HT4 HK4 hws HB3 HT3 HE hs3
  clear hWl htl
  have HR0 := Lib.hid hR0
  clear hR0
  go_wp2_with fail
  go_region_held3 (fun w' => TwoS Try.prog 42 50 w5 w1.heap.size w0.heap.size (W.map u32v) tc w') (first | assumption | exact two_drew HR0.out | exact two_drew (by assumption) | exact two_step hR3 (by assumption) (by assumption)) (first | (go_at_call 39; refine (masked_q kk _ 0x5c (by rfl) hk _).mono ?_; rintro e w6 ⟨q1, rfl, hq1, hz1, hb6⟩; try (have hsum : ¬ 9223372036854775807 < q1.size + q2.size := by omega)) | (go_at_call 34; rw [H3.out, H2.out]; refine (end256_q told rs htb HR.out HT.out _).mono ?_; rintro e w7 ⟨q2, rfl, hq2, hz2, hb7⟩; try (have hsum : ¬ 9223372036854775807 < q1.size + q2.size := by omega)) | (go_at_call 12; refine (Sum256_any _ (by rw [ByteArray.size_append]; omega) _).mono ?_; rintro e w8 ⟨rfl, hb8⟩))
  go_wp2
  go_ret
  have b5 := HB.out
  have b6 : Below w0.heap.size w0 w6 := b5.drew.trans (hb6.mono b5.size)
  have b7 : Below w0.heap.size w0 w7 := b6.trans (hb7.mono b6.size)
  refine ⟨?_, hb0.trans ((b7.trans (hb8.mono b7.size)).mono hb0.size)⟩
  rw [show Dig.sum256 k.data.toList = kk.data.toList from by rw [hkk.out]]
  rw [← HMK.out, ← H1.out]
  have e1 : q1.data.toList = Dig.masked kk.data.toList 0x5c := by rw [hq1.out]
  have e2 : q2.data.toList = Dig.sum256 told := by rw [hq2.out]
  rw [← e1, ← e2]
  rfl


theorem MAC_any (k s : ByteArray) (hk : k.size ≤ 300000000000000) (hs : s.size ≤ 300000000000000) (w : World) :
    Calls Try.prog 20 #[.string k, .string s] w fun e w' => e = .returned (.string ⟨(Dig.mac k.data.toList s.data.toList).toArray⟩) ∧ Below w.heap.size w w' := by
  by_cases h : 64 < k.size
  · have e : Dig.shortKey k.data.toList = Dig.sum256 k.data.toList := by rw [Dig.shortKey, if_pos (by rw [size_toList]; exact h)]
    rw [Dig.mac_eq, e]; exact MAC_long k s h hk hs w
  · have e : Dig.shortKey k.data.toList = k.data.toList := by rw [Dig.shortKey, if_neg (by rw [size_toList]; exact h)]
    rw [Dig.mac_eq, e]; exact MAC_short k s (by omega) hs w
end Go.Proofs.Ytjalmmhbjilabaa

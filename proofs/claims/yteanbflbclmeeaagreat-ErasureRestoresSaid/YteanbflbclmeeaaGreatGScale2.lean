/- The walks of texts of one length that are scaled: the program's and the document's. -/
import Derived.Test.YteanbflbclmeeaaGreatGScale
namespace Go.Proofs.YteanbflbclmeeaaGreat
open Go.RowKit

attribute [local go_sem high] run_index_byte g_xor
theorem RowS.drewN {w : World} {B g n cap : Nat} {xs : List Value} (h : RowS w B g n cap xs) (q : Nat) : RowS (w.drewN q) B g n cap xs := ⟨h.len, h.low, by rw [World.heap_drewN]; exact h.lt, h.le, h.max, h.told, h.room, h.free⟩
theorem below_kept {B : Nat} {w a b : World} {g : Nat} (h : Below B w a) (hk : Kept a.heap.size [g] a b) (hg : B ≤ g) (hB : B ≤ a.heap.size) : Below B w b :=
  ⟨hk.os.trans h.os, hk.tape.trans h.tape, hk.output.trans h.output, Nat.le_trans h.size hk.size, fun i hi => by
    rw [hk.block i (by omega) (by simp; omega), h.block i hi]⟩
theorem row_S_step {w w0 : World} {f : Nat → UInt8} {n i g B B0 : Nat} {x : UInt8} (hx : f i = x) (hR : RowS w B g n n (rowTo f n i)) (hi : i < n) (hB : Below B0 w0 w) (h0 : B0 ≤ B) :
    RowS (w.setCell ⟨g, i, none⟩ (.int .u8 x.toNat)) B g n n (rowTo f n (i + 1)) ∧ Below B0 w0 (w.setCell ⟨g, i, none⟩ (.int .u8 x.toNat)) :=
  ⟨by rw [← rowTo_step f n i x hx]; exact hR.set i hi _, hB.setCell (p := ⟨g, i, none⟩) (by have := hR.low; show B0 ≤ g; omega) _⟩
theorem mix_step {w w0 : World} {f : Nat → UInt8} {s : ByteArray} {i g cap B : Nat} {x : UInt8} (hx : f i = x) (hR : RowS w B g s.size cap (mixTo f s i)) (hi : i < s.size) (hB : Below B w0 w) :
    RowS (w.setCell ⟨g, i, none⟩ (.int .u8 x.toNat)) B g s.size cap (mixTo f s (i + 1)) ∧ Below B w0 (w.setCell ⟨g, i, none⟩ (.int .u8 x.toNat)) :=
  ⟨by rw [← mixTo_step f s i x hx]; exact hR.set i hi _, hB.setCell (p := ⟨g, i, none⟩) hR.low _⟩
set_option maxRecDepth 20000 in
set_option maxHeartbeats 1000000 in
theorem rScale_yes (to of : ByteArray) (t : UInt8) (h : of.size = to.size) (hn : to.size ≤ 1000000) (w : World) :
    Calls Tryz.prog 47 #[.string to, .string of, .int .u8 t.toNat] w fun e w' => e = .returned (.tuple #[.string (scaled to of t), .bool true]) ∧ Below w.heap.size w w' := by
  obtain ⟨f, hf⟩ : ∃ f, f = scF to of t := ⟨_, rfl⟩
  have HF := Lib.hid hf
  clear hf
  obtain ⟨m, hm⟩ : ∃ m, m = to.size := ⟨_, rfl⟩
  go_enter Tryz.func47, Tryz.ntmps47
  go_wp2_with (first | (refine wpList_string_bytes rfl 9 60 _ rfl 5 to rfl Tryz.underlying9 Tryz.underlying60 Tryz.underlying5 (by unfold maxLen; omega) ?_; intro cap w1 hrow hb1; go_frame))
  have hr0 := hrow.out
  rw [← mixTo_zero f to] at hr0
  have hb0 := hb1.out
  clear hrow hb1
  go_loopw [9] (fun iv wr => ∃ i : Nat, i ≤ to.size ∧ iv = .int .i64 i ∧ RowS wr w.heap.size w.heap.size to.size cap (mixTo f to i) ∧ Below w.heap.size w wr) (fun iv _ => to.size - (intOf iv).toNat)
  case atStart => exact ⟨0, by omega, rfl, hr0, hb0⟩
  case round =>
    clear hr0 hb0
    obtain ⟨i, hi, rfl, hR, hB⟩ := hrel
    by_cases hlt : i < to.size
    · have hlt2 : i < of.size := by omega
      have ci : wr.cell? ⟨w.heap.size, i, none⟩ = some (.int .u8 (strAt to i).toNat) := by
        have := hR.told i _ (mixTo_get f to i i hlt)
        rw [if_neg (by omega)] at this; exact this
      have fi := hR.free i (by have := hR.le; omega)
      have HR := Lib.hid hR
      have HB := Lib.hid hB
      have HS : Hid (f i = xr (strAt to i) (tm t (strAt of i))) := Lib.hid (by rw [HF.out]; exact scF_eq _ _ _ _)
      have HH := Lib.hid h
      clear hR hB h
      go_wp2_with fail
      refine wp_region_quiet_end (by kernel_rfl) rfl rfl (by kernel_rfl) (by kernel_rfl) (by kernel_rfl) ?_
      simp only [initL, lastL, List.cons_append, List.nil_append, Oper.mute]
      repeat (go_big_quiet_step (first | (go_at_call 71; exact Calls.quiet_of (rMul_q _ _ _))))
      refine wpQuiet_nil ?_
      rintro _ ⟨nq, rfl⟩
      have ci2 : (wr.drewN nq).cell? ⟨w.heap.size, i, none⟩ = some (.int .u8 (strAt to i).toNat) := ci
      have fi2 : (wr.drewN nq).frozen? ⟨w.heap.size, i, none⟩ = false := fi
      clear ci fi
      go_simp
      go_wp2_with fail
      go_roundw
      case rel => exact ⟨i + 1, by omega, by go_num, (mix_step HS.out (HR.out.drewN nq) hlt (below_drewN HB.out nq)).1, (mix_step HS.out (HR.out.drewN nq) hlt (below_drewN HB.out nq)).2⟩
      case measure => simp [intOf]; omega
    · obtain rfl : i = to.size := by omega
      have HB := Lib.hid hB
      have HH := Lib.hid h
      have HR := Lib.hid hR
      clear hR hB h
      have e1 : scaled to of t = ⟨(textOf f to.size).toArray⟩ := by unfold scaled; rw [HF.out]
      go_wp2_with (first | (refine wpList_bytes_string rfl 60 9 _ rfl 5 w.heap.size 0 to.size cap rfl (textOf f to.size) (length_textOf _ _) Tryz.underlying60 Tryz.underlying5 Tryz.underlying9 (by rw [← mixTo_text]; exact range_S HR.out) ?_; go_frame))
      go_ret2
      exact ⟨by rw [e1]; rfl, HB.out⟩
set_option maxRecDepth 20000 in
set_option maxHeartbeats 1000000 in
theorem Scale_yes (to of : ByteArray) (t : UInt8) (h : of.size = to.size) (hn : to.size ≤ 1000000) (w : World) :
    Calls Tryz.prog 80 #[.string to, .string of, .int .u8 t.toNat] w fun e w' => e = .returned (.tuple #[.string (scaled to of t), .bool true]) ∧ Below w.heap.size w w' := by
  obtain ⟨f, hf⟩ : ∃ f, f = scF to of t := ⟨_, rfl⟩
  have HF := Lib.hid hf
  clear hf
  obtain ⟨i0, hi, hz0, hz1, hz2⟩ := ginfo_parts infoByte
  have HL := Lib.hid (length_mulRow t)
  go_enter Tryz.func80, Tryz.ntmps80
  go_wp2_with fail
  refine (mults_any _ _).mono ?_
  rintro e w1 ⟨rfl, hb1⟩
  have HB1 := Lib.hid hb1
  clear hb1
  have hone : ∀ v ∈ mulRow t, v.oneCell' = true := by unfold mulRow; exact rowTo_ones _ _ _
  have HO := Lib.hid hone
  clear hone
  go_wp2_with (first | (refine wpList_alloc rfl 139 rfl (List.replicate 256 (.int .u8 0)) alloc256 ?_; go_frame) | (refine wpList_store_whole rfl 139 _ _ rfl w1.heap.size (mulRow t) (List.replicate 256 (.int .u8 0)) 139 rfl rfl (heap_alloc_new _ _) (by rw [HL.out, List.length_replicate]) (by rw [HL.out]; kernel_rfl) HO.out ?_; intro w2 h2 k2 s2; go_frame) | (refine wpList_make_row rfl 60 _ _ rfl 5 i0 (.int .u8 0) 1 Tryz.underlying60 hi hz0 hz1 hz2 rfl to.size to.size rfl rfl (by omega) (by omega) (by omega) ?_; intro w3 hown hb3; go_frame))
  have hr3 : RowS w3 w2.heap.size w2.heap.size to.size to.size (rowTo f to.size 0) := by
    rw [rowTo_zero]; exact RowS.of_own hown.out
  have hT : w3.heap[w1.heap.size]? = some (.cells (mulRow t).toArray 139 (0, 0)) := (hb3.block _ (lt_of_heap h2.out)).trans h2.out
  have hlow : w.heap.size ≤ w2.heap.size := by have := HB1.out.size; have := s2.out; simp at this; omega
  have hB3 : Below w.heap.size w w3 := by
    refine Below.trans (below_kept (HB1.out.alloc HB1.out.size _) k2.out HB1.out.size (by simp; have := HB1.out.size; omega)) (hb3.mono hlow)
  have hne : w1.heap.size < w2.heap.size := lt_of_heap h2.out
  have HLO := Lib.hid hlow
  clear hown hb3 h2 k2 s2 hlow
  go_loopw [23] (fun iv wr => ∃ i : Nat, i ≤ to.size ∧ iv = .int .i64 i ∧ RowS wr w2.heap.size w2.heap.size to.size to.size (rowTo f to.size i) ∧ wr.heap[w1.heap.size]? = some (.cells (mulRow t).toArray 139 (0, 0)) ∧ Below w.heap.size w wr) (fun iv _ => to.size - (intOf iv).toNat)
  case atStart => exact ⟨0, by omega, rfl, hr3, hT, hB3⟩
  case round =>
    clear hr3 hT hB3
    obtain ⟨i, hi0, rfl, hR, hT, hB⟩ := hrel
    by_cases hlt : i < to.size
    · have hlt2 : i < of.size := by omega
      have ci : wr.cell? ⟨w2.heap.size, i, none⟩ = some (.int .u8 0) := by
        have := hR.told i _ (rowTo_get f to.size i i hlt)
        rw [if_neg (by omega)] at this; exact this
      have fi := hR.free i hlt
      have cT : wr.cell? ⟨w1.heap.size, (strAt of i).toNat, none⟩ = some (.int .u8 (tm t (strAt of i)).toNat) := by
        rw [cell_of_list hT, mulRow_get]; rfl
      have h256 := (strAt of i).toNat_lt
      have HR := Lib.hid hR
      have HB := Lib.hid hB
      have HT := Lib.hid hT
      have HS : Hid (f i = xr (strAt to i) (tm t (strAt of i))) := Lib.hid (by rw [HF.out]; exact scF_eq _ _ _ _)
      have HH := Lib.hid h
      clear hR hB h hT
      go_wp2_with fail
      refine wp_region_quiet_end (by kernel_rfl) rfl rfl (by kernel_rfl) (by kernel_rfl) (by kernel_rfl) ?_
      simp only [initL, lastL, List.cons_append, List.nil_append, Oper.mute]
      repeat (go_big_quiet_step (first | (go_at_call 75; exact Calls.quiet_of (Add_q _ _ _))))
      refine wpQuiet_nil ?_
      rintro _ ⟨nq, rfl⟩
      have ci2 : (wr.drewN nq).cell? ⟨w2.heap.size, i, none⟩ = some (.int .u8 0) := ci
      have fi2 : (wr.drewN nq).frozen? ⟨w2.heap.size, i, none⟩ = false := fi
      clear ci fi cT h256
      go_simp
      go_wp2_with fail
      go_roundw
      case rel => exact ⟨i + 1, by omega, by go_num, (row_S_step HS.out (HR.out.drewN nq) hlt (below_drewN HB.out nq) HLO.out).1, by rw [heap_setCell_other _ _ _ _ (by simp; omega)]; exact HT.out, (row_S_step HS.out (HR.out.drewN nq) hlt (below_drewN HB.out nq) HLO.out).2⟩
      case measure => simp [intOf]; omega
    · obtain rfl : i = to.size := by omega
      have HB := Lib.hid hB
      have HH := Lib.hid h
      have HR := Lib.hid hR
      clear hR hB h hT
      have e1 : scaled to of t = ⟨(textOf f to.size).toArray⟩ := by unfold scaled; rw [HF.out]
      go_wp2_with (first | (refine wpList_bytes_string rfl 60 9 _ rfl 5 w2.heap.size 0 to.size to.size rfl (textOf f to.size) (length_textOf _ _) Tryz.underlying60 Tryz.underlying5 Tryz.underlying9 (by rw [← rowTo_text]; exact range_S HR.out) ?_; go_frame))
      go_ret2
      exact ⟨by rw [e1]; rfl, HB.out⟩
end Go.Proofs.YteanbflbclmeeaaGreat

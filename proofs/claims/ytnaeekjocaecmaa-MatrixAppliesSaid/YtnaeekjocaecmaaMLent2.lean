/- The walk of lent. -/
import Derived.Test.YtnaeekjocaecmaaMOwnB
namespace Go.Proofs.Ytnaeekjocaecmaa
open Go.RowKit

theorem lent_facts {v v2 : Value} {l : List UInt8} {w0 w1 w2 : World} {o : Obj} {len : Nat} (h1 : OwnB w0.heap.size v l w1) (hb : Below w0.heap.size w0 w1) (h2 : OwnB w0.heap.size v2 (l ++ [77]) w2) (hg : (w1.alloc o).grownBy w2 v.ownBlock) (hl : l.length = len) :
    ∃ g cap2, v2 = .slice (some ⟨g, 0, none⟩) (len + 1) cap2 ∧ len + 1 ≤ cap2 ∧ w0.heap.size ≤ g ∧ g < w2.heap.size ∧ w2.rangeAt g 0 (l.map u8v) ∧ Below w0.heap.size w0 w2 := by
  obtain ⟨g, cap2, hv, hc, hlo, hlt⟩ := h2.form (by simp)
  have hn : (l ++ [77]).length = len + 1 := by rw [List.length_append, hl]; rfl
  rw [hn] at hv hc
  refine ⟨g, cap2, hv, hc, hlo, hlt, fun j u hu => ?_, grown_belowB (hb.alloc hb.size o) (by have := hb.size; simp; omega) (h1.alloc o) hg⟩
  rw [hv, ← hn] at h2
  have hj : j < l.length := by have := (List.getElem?_eq_some_iff.1 hu).1; rw [List.length_map] at this; exact this
  rw [List.getElem?_map, List.getElem?_eq_getElem hj] at hu
  have := h2.cell (j := j) (x := l[j]) (by rw [List.getElem?_append_left hj, List.getElem?_eq_getElem hj])
  rw [Nat.zero_add, this]; exact hu
theorem one_77 (w : World) : ∀ j u, (([77] : List UInt8).map u8v)[j]? = some u → (w.alloc (.cells #[.int .u8 77] 5)).cell? ((⟨w.heap.size, 0, none⟩ : Addr).add j) = some u := by
  have h := one_byte w 77
  rw [show u8v 77 = Value.int .u8 77 from rfl] at h
  exact h
/-- The place of the answer. -/
structure Res0 (R : Nat) (w : World) : Prop where
  at_ : ResAt R 24 w
theorem Res0.below' {R : Nat} {w w' : World} (h : Res0 R w) (hb : Below w.heap.size w w') : Res0 R w' := ⟨h.at_.below hb h.at_.lt⟩
theorem lent_res {R : Nat} {w : World} (h : Res0 (R + 1) w) (v : Value) : (w.setCell ⟨R, 2, none⟩ v).heap[R + 1]? = some (.cells zeroRow.toArray 24 (0, 0)) := (heap_setCell_other _ _ _ _ (by show R + 1 ≠ R; omega)).trans h.at_
theorem lent_ones (r c : Int) (g n m : Nat) : ∀ v ∈ [Value.int .i64 r, .int .i64 c, .slice (some ⟨g, 0, none⟩) n m], v.oneCell' = true := fun v hv => by simp at hv; rcases hv with rfl | rfl | rfl <;> rfl
theorem lt_of_block {w w' : World} {g : Nat} (h : w'.heap[g]? = w.heap[g]?) (hl : g < w.heap.size) : g < w'.heap.size := by
  rw [Array.getElem?_eq_getElem hl] at h
  exact lt_of_heap h
set_option maxRecDepth 20000 in
set_option maxHeartbeats 2000000 in
theorem lent_pos (r c : Int) (b o len cap : Nat) (l : List UInt8) (hll : l.length = len) (hpos : 0 < len) (hlen : len ≤ 1600) (w : World) (hbl : b < w.heap.size) (hrg : w.rangeAt b o (l.map u8v)) :
    Calls Try.prog 20 #[.agg #[.int .i64 r, .int .i64 c, .slice (some ⟨b, o, none⟩) len cap]] w fun e w' => ∃ g cap2, e = .returned (.agg #[.int .i64 r, .int .i64 c, .slice (some ⟨g, 0, none⟩) len cap2]) ∧ Hand (some ⟨g, 0, none⟩) len cap2 l w' ∧ Below w.heap.size w w' := by
  obtain ⟨wa, hwa⟩ : ∃ wa, wa = (w.alloc (.cells #[.int .i64 r, .int .i64 c, .slice (some ⟨b, o, none⟩) len cap] 24)).alloc (.cells #[.int .i64 0, .int .i64 0, .slice none 0 0] 24) := ⟨_, rfl⟩
  have R0 : Hid (RA r c (some ⟨b, o, none⟩) len cap w wa) := Lib.hid (by rw [hwa]; exact ⟨heap_alloc2_old _ _ _, (below_alloc w _).alloc (by simp) _⟩)
  have RES : Hid (Res0 (w.heap.size + 1) wa) := Lib.hid ⟨by rw [hwa]; exact heap_alloc2_new _ _ _⟩
  have HSZ : Hid (wa.heap.size = w.heap.size + 1 + 1) := Lib.hid (by rw [hwa]; simp)
  have HWA := Lib.hid hwa
  have HLL := Lib.hid hll
  have HN : Hid (∀ j u, (l.map u8v)[j]? = some u → wa.cell? ((⟨b, o, none⟩ : Addr).add j) = some u) := Lib.hid (fun j u hu => by
    rw [Addr.add_mid]
    exact (R0.out.old.cell (p := ⟨b, o + j, none⟩) hbl).trans (hrg j u hu))
  obtain ⟨d0, d1, d2⟩ := heap_cell0 R0.out.box
  clear hwa hll hrg
  go_enter Try.func20, Try.ntmps20
  go_wp2_with (first | (at_builtin; rw [← HWA.out]; refine wpList_append_bytes rfl (.const (.slice none 0 0)) (.tmp 5) rfl wa.heap.size _ [] rfl (OwnB.nil _ _) ⟨b, o, none⟩ len cap l rfl HLL.out HN.out (by first | omega | (simp; omega))  (Nat.le_refl _) ?_; intro v1 w1 ho1 hg1; obtain ⟨g1, cap1, hv1, hc1, hgl1, hl1⟩ := (show OwnB wa.heap.size v1 l w1 from ho1.out).form (by rw [HLL.out]; exact hpos); rw [HLL.out] at hv1 hc1; subst hv1; have HO1 := Lib.hid (show OwnB wa.heap.size _ l w1 from ho1.out); have HB1 := Lib.hid (show Below wa.heap.size wa w1 from ⟨hg1.out.os, hg1.out.tape, hg1.out.output, hg1.out.size, fun k hk => hg1.out.block k hk (fun e => by cases e)⟩); clear ho1 hg1; go_frame) | (at_builtin; go_loud (refine wpList_append_bytes rfl (.tmp 7) (.tmp 8) rfl wa.heap.size _ l rfl (HO1.out.alloc _) ⟨w1.heap.size, 0, none⟩ 1 1 [77] rfl rfl (one_77 w1) (by rw [HLL.out]; omega) (Nat.le_trans HB1.out.size (by simp)) ?_; intro v2 w2 ho hg; obtain ⟨g, cap2, hv2, hc2, hg2, hg2l, hrng, hB2⟩ := lent_facts HO1.out HB1.out ho.out hg.out HLL.out; subst hv2; have HR := Lib.hid hrng; have HB2 := Lib.hid hB2; have R2 := Lib.hid (R0.out.below HB2.out); have E2 := Lib.hid (RES.out.below' HB2.out); obtain ⟨f0, f1, f2⟩ := heap_cell0 R2.out.box; have ff := free_of_list R2.out.box 2; have q1 : (0 : Int) ≤ (len : Int) := (by omega); have q2 : (len : Int) ≤ (cap2 : Int) := (by omega); clear hrng hB2 ho hg; go_frame)) | (refine wpList_store_whole rfl 24 _ _ rfl (w.heap.size + 1) [.int .i64 r, .int .i64 c, .slice (some ⟨g, 0, none⟩) len cap2] zeroRow 24 rfl rfl (lent_res E2.out _) rfl (by kernel_rfl) (lent_ones _ _ _ _ _) ?_; intro w4 h4 k4 s4; go_frame))
  have hB4 : Below w.heap.size w (w2.setCell ⟨w.heap.size, 2, none⟩ (.slice (some ⟨g, 0, none⟩) len cap2)) := below_kept R2.out.old ((Kept.refl w2.heap.size [w.heap.size] w2).setCell (p := ⟨w.heap.size, 2, none⟩) (by simp) _) (Nat.le_refl _) R2.out.old.size
  have hgs := HSZ.out
  have hk : w4.heap[g]? = w2.heap[g]? := (k4.out.block g (by simp [World.setCell]; omega) (by simp; omega)).trans (heap_setCell_other _ _ _ _ (by show g ≠ w.heap.size; omega))
  exact bodyPost_ret (results_mid Try.results20 _ _ (w.heap.size + 1) 0 [.int .i64 r, .int .i64 c, .slice (some ⟨g, 0, none⟩) len cap2] _ rfl (range_of_list h4.out) Try.underlying24 rfl (by kernel_rfl)) rfl ⟨g, cap2, rfl, ⟨HLL.out, by omega, fun _ => ⟨g, 0, rfl, lt_of_block hk hg2l, fun j u hu => (World.cell?_of_block (w := w2) (a := ⟨g, 0 + j, none⟩) hk).trans (HR.out j u hu)⟩⟩, below_kept hB4 k4.out (by omega) hB4.size⟩
end Go.Proofs.Ytnaeekjocaecmaa

/- The walk of layer 9's Open: what is refused ahead of the blocks. -/
import Derived.Test.YtdimkgidaioolaaHSeal
import Derived.Test.YtdimkgidaioolaaHLen
namespace Go.Proofs.Ytdimkgidaioolaa
open Go.RowKit Go.Shelf
attribute [local go_sem] Oper.semAt_some

theorem headed_iff (nm s : List UInt8) : Shd.Headed nm s ↔ (lenFound s = true ∧ Lib.hasPrefix s (Shd.head nm (Shd.lenOf s)) = true) := by
  rw [← Lib.hasPrefix_of_take, Shd.length_head, Shd.Headed, lenFound]
  simp only [decide_eq_true_eq, Bool.and_eq_true, beq_iff_eq]
  constructor
  · rintro ⟨h1, h2, h3, h4⟩; exact ⟨⟨h1, h2, h3⟩, h1, h4⟩
  · rintro ⟨⟨h1, h2, h3⟩, _, h4⟩; exact ⟨h1, h2, h3, h4⟩
theorem cells2 {w : World} {b : Nat} {v : Value} {T : TypeId} (h : w.heap[b]? = some (.cells #[v] T (0, 0))) : w.cell? ⟨b, 0, none⟩ = some v ∧ w.frozen? ⟨b, 0, none⟩ = false := ⟨by rw [cell_of_list (cs := [_]) h]; rfl, free_of_list (cs := [_]) h 0⟩
theorem allocStr (w : World) : (Instr.alloc 9 true (.tuple #[])).run Try.prog w = .ok (.pointer (some ⟨w.heap.size, 0, none⟩)) (w.alloc (.cells [Value.string ⟨#[]⟩].toArray 9)) := by kernel_rfl
theorem allocErr (w : World) : (Instr.alloc 24 true (.tuple #[])).run Try.prog w = .ok (.pointer (some ⟨w.heap.size, 0, none⟩)) (w.alloc (.cells [Value.nilIface].toArray 24)) := by kernel_rfl
theorem two_cells (w : World) : ((w.alloc (.cells #[Value.string ⟨#[]⟩] 9)).alloc (.cells #[Value.nilIface] 24)).heap[w.heap.size]? = some (.cells #[Value.string ⟨#[]⟩] 9 (0, 0)) ∧ ((w.alloc (.cells #[Value.string ⟨#[]⟩] 9)).alloc (.cells #[Value.nilIface] 24)).heap[w.heap.size + 1]? = some (.cells #[Value.nilIface] 24 (0, 0)) := by
  refine ⟨(Below.heap_alloc _ _ _ (by simp)).trans (heap_alloc_new _ _), ?_⟩
  have := heap_alloc_new (w.alloc (.cells #[Value.string ⟨#[]⟩] 9)) (.cells #[Value.nilIface] 24)
  rwa [World.size_alloc] at this
theorem two_size (w : World) : w.heap.size + 2 ≤ ((w.alloc (.cells #[Value.string ⟨#[]⟩] 9)).alloc (.cells #[Value.nilIface] 24)).heap.size := by simp
theorem two_below (w : World) : Below w.heap.size w ((w.alloc (.cells #[Value.string ⟨#[]⟩] 9)).alloc (.cells #[Value.nilIface] 24)) := ((Below.refl _ w).alloc (Nat.le_refl _) _).alloc (by simp) _
theorem results_two (tmps : Array Value) (W : World) (p q : Addr) (s : ByteArray) (v : Value) (h4 : tmps[4]?.getD undef = .pointer (some p)) (h5 : tmps[5]?.getD undef = .pointer (some q)) (c4 : W.cell? p = some (.string s)) (c5 : W.cell? q = some v) :
    (results Try.f13 tmps).run Try.prog W = .ok (.tuple #[.string s, v]) W := by
  simp [results, Try.f13, go_sem, h4, h5, c4, c5]
theorem end_refused {c a : Int} {g : Nat} {w w9 : World} (hB : Below w.heap.size w w9) (hF : FaultAt g c a w9) (hg : w.heap.size + 2 ≤ g) {x y : Value} (h4 : w9.cell? ⟨w.heap.size, 0, none⟩ = some x) (h5 : w9.cell? ⟨w.heap.size + 1, 0, none⟩ = some y) (tmps : Array Value)
    (t4 : tmps[4]?.getD undef = .pointer (some ⟨w.heap.size, 0, none⟩)) (t5 : tmps[5]?.getD undef = .pointer (some ⟨w.heap.size + 1, 0, none⟩)) :
    ∃ v, (results Try.f13 tmps).run Try.prog ((w9.setCell ⟨w.heap.size, 0, none⟩ (.string ⟨#[]⟩)).setCell ⟨w.heap.size + 1, 0, none⟩ (.iface 55 (.pointer (some ⟨g, 0, none⟩)))) = .ok v ((w9.setCell ⟨w.heap.size, 0, none⟩ (.string ⟨#[]⟩)).setCell ⟨w.heap.size + 1, 0, none⟩ (.iface 55 (.pointer (some ⟨g, 0, none⟩)))) ∧
      Refused c a (fun v => .tuple #[.string ⟨#[]⟩, v]) w (.returned v) ((w9.setCell ⟨w.heap.size, 0, none⟩ (.string ⟨#[]⟩)).setCell ⟨w.heap.size + 1, 0, none⟩ (.iface 55 (.pointer (some ⟨g, 0, none⟩)))) := by
  refine ⟨_, results_two tmps _ ⟨w.heap.size, 0, none⟩ ⟨w.heap.size + 1, 0, none⟩ ⟨#[]⟩ (.iface 55 (.pointer (some ⟨g, 0, none⟩))) t4 t5 ?_ ?_, g, by omega, rfl, ?_, (hB.setCell (p := ⟨w.heap.size, 0, none⟩) (Nat.le_refl _) _).setCell (p := ⟨w.heap.size + 1, 0, none⟩) (by simp) _⟩
  · rw [World.cell?_setCell_other _ _ _ _ (by simp)]
    exact World.cell?_setCell_same' _ _ _ (by rw [h4]; rfl)
  · exact World.cell?_setCell_same' _ _ _ (by rw [World.cell?_setCell_other _ _ _ _ (by simp), h5]; rfl)
  · exact (Below.heap_setCell _ _ _ _ (by simp; omega)).trans ((Below.heap_setCell _ _ _ _ (by simp; omega)).trans hF)
set_option maxRecDepth 100000 in
set_option maxHeartbeats 2000000 in
theorem Open_name (nm s : ByteArray) (h : 220 < nm.size) (w : World) :
    Calls Try.prog 13 #[.string nm, .string s] w (Refused 1 0 (fun v => .tuple #[.string ⟨#[]⟩, v]) w) := by
  refine (callsIn_wide (n := 4)).1 ?_
  refine callsIn_of_wp_marks Try.func13 rfl trivial ?_ rfl
  simp only [Try.ntmps13, List.size_toArray, List.length_cons, List.length_nil, Nat.reduceAdd, Nat.reduceSub, Array.replicate_succ, Array.replicate_zero, List.push_toArray, List.append_toArray, List.nil_append, List.cons_append]
  gi_wp2_with (first | (refine wpListIn_alloc rfl 9 rfl _ allocStr ?_; go_frame) | (refine wpListIn_alloc rfl 24 rfl _ allocErr ?_; have HG0 := Lib.hid (two_size w); have H4 := Lib.hid (two_cells w).1; have H5 := Lib.hid (two_cells w).2; have HB2 := Lib.hid (two_below w); obtain ⟨w2, hw2⟩ : ∃ x, x = (w.alloc (.cells #[Value.string ⟨#[]⟩] 9)).alloc (.cells #[Value.nilIface] 24) := ⟨_, rfl⟩; rw [← hw2] at HG0 H4 H5 HB2 ⊢; clear hw2; go_frame) | (refine ⟨trivial, ?_⟩; gi_at_call 15; refine (callsIn_wide.2 (Hfault_any 1 0 _)).mono ?_; rintro e w9 ⟨rfl, hf1, hb1⟩; have HF9 := Lib.hid hf1; have HG := Lib.hid HG0.out; have HB9 := Lib.hid (HB2.out.trans (hb1.mono HB2.out.size)); obtain ⟨c4, f4⟩ := cells2 ((hb1.block _ (lt_of_heap H4.out)).trans H4.out); obtain ⟨c5, f5⟩ := cells2 ((hb1.block _ (lt_of_heap H5.out)).trans H5.out); clear hf1 hb1) | fail)
  exact end_refused HB9.out HF9.out HG.out c4 c5 _ rfl rfl
set_option maxRecDepth 100000 in
set_option maxHeartbeats 2000000 in
theorem Open_head (nm s : List UInt8) (hn : nm.length ≤ 220) (h : ¬ Shd.Headed nm s) (w : World) :
    Calls Try.prog 13 #[.string (bs nm), .string (bs s)] w (Refused 14 0 (fun v => .tuple #[.string ⟨#[]⟩, v]) w) := by
  rw [headed_iff] at h
  refine (callsIn_wide (n := 4)).1 ?_
  refine callsIn_of_wp_marks Try.func13 rfl trivial ?_ rfl
  simp only [Try.ntmps13, List.size_toArray, List.length_cons, List.length_nil, Nat.reduceAdd, Nat.reduceSub, Array.replicate_succ, Array.replicate_zero, List.push_toArray, List.append_toArray, List.nil_append, List.cons_append]
  have hz1 : (bs nm).size = nm.length := bs_size nm
  have hz2 : (bs s).size = s.length := bs_size s
  cases hf : lenFound s with
  | false =>
    have CL := Lib.hid (fun v : World => lengthIn_any s v)
    rw [hf] at CL
    simp only [Bool.false_eq_true, if_false] at CL
    have CS := Lib.hid (fun v : World => sealOf_any nm 0 (by omega) v)
    obtain ⟨q, hq⟩ : ∃ q, q = Fr.be 4 0 := ⟨_, rfl⟩
    rw [← hq] at CS
    clear h hf hq
    gi_wp2_with (first | (refine wpListIn_alloc rfl 9 rfl _ allocStr ?_; go_frame) | (refine wpListIn_alloc rfl 24 rfl _ allocErr ?_; have HG0 := Lib.hid (two_size w); have H4 := Lib.hid (two_cells w).1; have H5 := Lib.hid (two_cells w).2; have HB2 := Lib.hid (two_below w); obtain ⟨w2, hw2⟩ : ∃ x, x = (w.alloc (.cells #[Value.string ⟨#[]⟩] 9)).alloc (.cells #[Value.nilIface] 24) := ⟨_, rfl⟩; rw [← hw2] at HG0 H4 H5 HB2 ⊢; clear hw2; go_frame) | (refine ⟨trivial, ?_⟩; gi_at_call 25; refine (callsIn_wide.2 (CL.out _)).mono ?_; rintro e w' ⟨rfl, rfl⟩) | (refine ⟨trivial, ?_⟩; gi_at_call 16; refine (callsIn_wide.2 (CS.out _)).mono ?_; rintro e w3 ⟨rfl, hb3⟩; have HB3 := Lib.hid (HB2.out.trans (hb3.mono HB2.out.size)); have G4a := Lib.hid ((hb3.block _ (lt_of_heap H4.out)).trans H4.out); have G5a := Lib.hid ((hb3.block _ (lt_of_heap H5.out)).trans H5.out); have HL3 := hb3.size; clear hb3) | (refine wpListIn_store_whole rfl 41 _ _ rfl w3.heap.size [.string (bs nm), .string (bs q)] [Value.string ⟨#[]⟩, .string ⟨#[]⟩] 41 rfl rfl (heap_alloc_new _ _) rfl (by kernel_rfl) (two_ones _ _) ?_; intro w6 h6 k6 s6; have hb6 := below_kept ((Below.refl w3.heap.size w3).alloc (Nat.le_refl _) _) k6.out (Nat.le_refl _); have HB6 := Lib.hid (HB3.out.trans (hb6.mono HB3.out.size)); have G4 := Lib.hid ((hb6.block _ (lt_of_heap G4a.out)).trans G4a.out); have G5 := Lib.hid ((hb6.block _ (lt_of_heap G5a.out)).trans G5a.out); have HL6 := hb6.size; clear hb6 k6 s6 G4a G5a; go_frame) | fail)
    refine ⟨trivial, ?_⟩
    gi_wp2_with fail
    refine ⟨trivial, ?_⟩
    gi_wp2_with (first | (refine ⟨trivial, ?_⟩; gi_at_call 15; refine (callsIn_wide.2 (Hfault_any 14 0 _)).mono ?_; rintro e w9 ⟨rfl, hf1, hb1⟩; have HF9 := Lib.hid hf1; have HG := Lib.hid (Nat.le_trans HG0.out (Nat.le_trans HL3 HL6)); have HB9 := Lib.hid (HB6.out.trans (hb1.mono HB6.out.size)); obtain ⟨c4, f4⟩ := cells2 ((hb1.block _ (lt_of_heap G4.out)).trans G4.out); obtain ⟨c5, f5⟩ := cells2 ((hb1.block _ (lt_of_heap G5.out)).trans G5.out); clear hf1 hb1) | fail)
    exact end_refused HB9.out HF9.out HG.out c4 c5 _ rfl rfl
  | true =>
    have hp : Lib.hasPrefix s (Shd.head nm (Shd.lenOf s)) = false := by
      cases hh : Lib.hasPrefix s (Shd.head nm (Shd.lenOf s)) with
      | false => rfl
      | true => exact absurd ⟨hf, hh⟩ h
    have hL : Shd.lenOf s ≤ 10000 := (of_decide_eq_true hf).2.1
    have CL := Lib.hid (fun v : World => lengthIn_any s v)
    rw [hf] at CL
    simp only [if_true] at CL
    obtain ⟨L, hLL⟩ : ∃ L, L = Shd.lenOf s := ⟨_, rfl⟩
    rw [← hLL] at CL hp hL
    have CS := Lib.hid (fun v : World => sealOf_any nm L (by omega) v)
    have CH := Lib.hid (fun v : World => Hhead_any nm L hn v)
    obtain ⟨q, hq⟩ : ∃ q, q = Fr.be 4 L := ⟨_, rfl⟩
    rw [← hq] at CS CH
    obtain ⟨HD, hHD⟩ : ∃ x, x = Shd.head nm L := ⟨_, rfl⟩
    rw [← hHD] at CH hp
    have CP := Lib.hid (fun v : World => HasPrefix_any (bs s) (bs HD) v)
    rw [bs_list, bs_list, hp] at CP
    clear h hf hq hHD hp hLL
    gi_wp2_with (first | (refine wpListIn_alloc rfl 9 rfl _ allocStr ?_; go_frame) | (refine wpListIn_alloc rfl 24 rfl _ allocErr ?_; have HG0 := Lib.hid (two_size w); have H4 := Lib.hid (two_cells w).1; have H5 := Lib.hid (two_cells w).2; have HB2 := Lib.hid (two_below w); obtain ⟨w2, hw2⟩ : ∃ x, x = (w.alloc (.cells #[Value.string ⟨#[]⟩] 9)).alloc (.cells #[Value.nilIface] 24) := ⟨_, rfl⟩; rw [← hw2] at HG0 H4 H5 HB2 ⊢; clear hw2; go_frame) | (refine ⟨trivial, ?_⟩; gi_at_call 25; refine (callsIn_wide.2 (CL.out _)).mono ?_; rintro e w' ⟨rfl, rfl⟩) | (refine ⟨trivial, ?_⟩; gi_at_call 16; refine (callsIn_wide.2 (CS.out _)).mono ?_; rintro e w3 ⟨rfl, hb3⟩; have HB3 := Lib.hid (HB2.out.trans (hb3.mono HB2.out.size)); have G4a := Lib.hid ((hb3.block _ (lt_of_heap H4.out)).trans H4.out); have G5a := Lib.hid ((hb3.block _ (lt_of_heap H5.out)).trans H5.out); have HL3 := hb3.size; clear hb3) | (refine wpListIn_store_whole rfl 41 _ _ rfl w3.heap.size [.string (bs nm), .string (bs q)] [Value.string ⟨#[]⟩, .string ⟨#[]⟩] 41 rfl rfl (heap_alloc_new _ _) rfl (by kernel_rfl) (two_ones _ _) ?_; intro w6 h6 k6 s6; have hb6 := below_kept ((Below.refl w3.heap.size w3).alloc (Nat.le_refl _) _) k6.out (Nat.le_refl _); have HB6 := Lib.hid (HB3.out.trans (hb6.mono HB3.out.size)); have G4 := Lib.hid ((hb6.block _ (lt_of_heap G4a.out)).trans G4a.out); have G5 := Lib.hid ((hb6.block _ (lt_of_heap G5a.out)).trans G5a.out); have HL6 := hb6.size; clear hb6 k6 s6 G4a G5a; go_frame) | (refine wpListIn_load_guarded rfl 41 _ rfl w3.heap.size [.string (bs nm), .string (bs q)] 41 rfl h6.out _ Try.underlying41 rfl (by kernel_rfl) ?_; go_frame) | (refine ⟨trivial, ?_⟩; gi_at_call 18; refine (callsIn_wide.2 (CH.out _)).mono ?_; rintro e w7 ⟨rfl, hb7⟩; have HB7 := Lib.hid (HB6.out.trans (hb7.mono HB6.out.size)); have HL7 := hb7.size; replace G4 := Lib.hid ((hb7.block _ (lt_of_heap G4.out)).trans G4.out); replace G5 := Lib.hid ((hb7.block _ (lt_of_heap G5.out)).trans G5.out); clear hb7) | (refine ⟨trivial, ?_⟩; gi_at_call 26; refine (callsIn_wide.2 (CP.out _)).mono ?_; rintro e w' ⟨rfl, rfl⟩) | (refine ⟨trivial, ?_⟩; gi_at_call 15; refine (callsIn_wide.2 (Hfault_any 14 0 _)).mono ?_; rintro e w9 ⟨rfl, hf1, hb1⟩; have HF9 := Lib.hid hf1; have HG := Lib.hid (Nat.le_trans HG0.out (Nat.le_trans HL3 (Nat.le_trans HL6 HL7))); have HB9 := Lib.hid (HB7.out.trans (hb1.mono HB7.out.size)); obtain ⟨c4, f4⟩ := cells2 ((hb1.block _ (lt_of_heap G4.out)).trans G4.out); obtain ⟨c5, f5⟩ := cells2 ((hb1.block _ (lt_of_heap G5.out)).trans G5.out); clear hf1 hb1) | fail)
    exact end_refused HB9.out HF9.out HG.out c4 c5 _ rfl rfl
end Go.Proofs.Ytdimkgidaioolaa

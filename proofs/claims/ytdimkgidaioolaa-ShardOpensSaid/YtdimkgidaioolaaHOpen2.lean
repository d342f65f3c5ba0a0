/- The walk of layer 9's Open over the blocks. -/
import Derived.Test.YtdimkgidaioolaaHOpen
import Derived.Test.YtdimkgidaioolaaHQuiet
namespace Go.Proofs.Ytdimkgidaioolaa
open Go.RowKit Go.Shelf
attribute [local go_sem] Oper.semAt_some
theorem at_is (j : Nat) (h : j < 51) : wrap64 (36 + wrap64 ((j : Int) * 232)) = ((36 + 232 * j : Nat) : Int) := by unfold wrap64; omega
theorem w200 (n : Nat) (h : n ≤ 200) : wrap64 (n : Int) = (n : Int) := by unfold wrap64; omega
theorem w200i (n : Nat) (h : n ≤ 200) : IntKind.i64.wrap (n : Int) = (n : Int) := IntWalk.i64_in _ (by omega)
theorem z200 (n : Nat) : (0 : Int) ≤ (n : Int) := by omega
theorem l200 (n : Nat) : (n : Int) ≤ (n : Int) + 32 := by omega
/-- A round has left: the block's sum is another; the error is laid. -/
def Left (nm s : List UInt8) (L : Nat) (w : World) (c : Code) (j : Nat) (W : World) : Prop :=
  c = .ret ∧ (¬ Shd.Good nm s L j ∧ ∀ i, i < j → Shd.Good nm s L i) ∧ Below w.heap.size w W ∧ ∃ g, w.heap.size ≤ g ∧ FaultAt g 14 ((36 + 232 * j : Nat) : Int) W ∧
    W.heap[w.heap.size]? = some (.cells #[Value.string ⟨#[]⟩] 9 (0, 0)) ∧ W.heap[w.heap.size + 1]? = some (.cells #[Value.iface 55 (.pointer (some ⟨g, 0, none⟩))] 24 (0, 0))
theorem Left.put {nm s : List UInt8} {L : Nat} {w : World} {c : Code} {j : Nat} {W : World} {k : Nat} {o o' : Obj} (h : Left nm s L w c j W) (hk : w.heap.size ≤ k) (ho : W.heap[k]? = some o) (hc : o.isCells = false) : Left nm s L w c j (W.putObj k o') := by
  obtain ⟨h1, h2, h3, g, h4, h5, h6, h7⟩ := h
  refine ⟨h1, h2, h3.grown (grownBy_putObj' W k o') h3.size (fun i e => by cases e; exact hk), g, h4, ?_, ?_, ?_⟩
  · exact (World.putObj_heap_other (obj_ne h5 rfl ho hc)).trans h5
  · exact (World.putObj_heap_other (obj_ne h6 rfl ho hc)).trans h6
  · exact (World.putObj_heap_other (obj_ne h7 rfl ho hc)).trans h7
theorem _root_.Go.AbidesCut.and_pure {B Bt : Nat} {T : TypeId} {I : Nat → World → Prop} {G : Nat → Prop} (h : AbidesCut B Bt T I) : AbidesCut B Bt T (fun j W => I j W ∧ G j) :=
  ⟨fun j W o hs => ⟨h.alloc j W o hs.1, hs.2⟩, fun j W l o o' a b c hs => ⟨h.put j W l o o' a b c hs.1, hs.2⟩, fun j W x y a hs => ⟨h.turn j W x y a hs.1, hs.2⟩⟩
theorem three_new {w8 : World} (w : World) (s : ByteArray) (k : Int) (h : w8 = ((w.alloc (.cells #[Value.pointer none, .slice none 0 0] 45)).alloc (.cells #[Value.string s] 9)).alloc (.cells #[Value.int .i64 k] 3)) :
    w8.heap[w.heap.size]? = some (.cells [Value.pointer none, .slice none 0 0].toArray 45 (0, 0)) ∧ w8.heap[w.heap.size + 1]? = some (.cells #[Value.string s] 9 (0, 0)) ∧ w8.heap[w.heap.size + 1 + 1]? = some (.cells #[Value.int .i64 k] 3 (0, 0)) ∧ w8.heap.size = w.heap.size + 3 ∧ Below w.heap.size w w8 := by
  subst h
  refine ⟨?_, ?_, ?_, by simp, (((Below.refl _ w).alloc (Nat.le_refl _) _).alloc (by simp) _).alloc (by simp; omega) _⟩
  · exact (Below.heap_alloc _ _ _ (by simp; omega)).trans ((Below.heap_alloc _ _ _ (by simp)).trans (heap_alloc_new _ _))
  · have := heap_alloc_new (w.alloc (.cells #[Value.pointer none, .slice none 0 0] 45)) (.cells #[Value.string s] 9)
    rw [World.size_alloc] at this
    exact (Below.heap_alloc _ _ _ (by simp)).trans this
  · have := heap_alloc_new ((w.alloc (.cells #[Value.pointer none, .slice none 0 0] 45)).alloc (.cells #[Value.string s] 9)) (.cells #[Value.int .i64 k] 3)
    rwa [World.size_alloc, World.size_alloc] at this
theorem cell_put {W : World} {D b : Nat} {o : Obj} {v : Value} {T : TypeId} (hb : W.heap[b]? = some (.cells #[v] T (0, 0))) (hD : b ≠ D) : (W.putObj D o).cell? ⟨b, 0, none⟩ = some v := (cells2 ((World.putObj_heap_other hD).trans hb)).1
theorem end_told {w We : World} {D : Nat} (t : ByteArray) (v x y : Value) (hB : Below w.heap.size w We) (hD : w.heap.size + 2 ≤ D) (hK : We.heap[D]? = some (.deferred (some []))) (h4 : We.heap[w.heap.size]? = some (.cells #[x] 9 (0, 0))) (h5 : We.heap[w.heap.size + 1]? = some (.cells #[y] 24 (0, 0))) (tmps : Array Value)
    (t4 : tmps[4]?.getD undef = .pointer (some ⟨w.heap.size, 0, none⟩)) (t5 : tmps[5]?.getD undef = .pointer (some ⟨w.heap.size + 1, 0, none⟩)) :
    ((We.setCell ⟨w.heap.size, 0, none⟩ (.string t)).setCell ⟨w.heap.size + 1, 0, none⟩ v).heap[D]? = some (.deferred (some [])) ∧
    (results Try.f13 tmps).run Try.prog (((We.setCell ⟨w.heap.size, 0, none⟩ (.string t)).setCell ⟨w.heap.size + 1, 0, none⟩ v).putObj D (.deferred none)) = .ok (.tuple #[.string t, v]) (((We.setCell ⟨w.heap.size, 0, none⟩ (.string t)).setCell ⟨w.heap.size + 1, 0, none⟩ v).putObj D (.deferred none)) ∧
    Below w.heap.size w (((We.setCell ⟨w.heap.size, 0, none⟩ (.string t)).setCell ⟨w.heap.size + 1, 0, none⟩ v).putObj D (.deferred none)) := by
  have hk : ((We.setCell ⟨w.heap.size, 0, none⟩ (.string t)).setCell ⟨w.heap.size + 1, 0, none⟩ v).heap[D]? = some (.deferred (some [])) := (Below.heap_setCell _ _ _ _ (by simp; omega)).trans ((Below.heap_setCell _ _ _ _ (by simp; omega)).trans hK)
  have e4 : ((We.setCell ⟨w.heap.size, 0, none⟩ (.string t)).setCell ⟨w.heap.size + 1, 0, none⟩ v).heap[w.heap.size]? = some (.cells #[.string t] 9 (0, 0)) := (Below.heap_setCell _ _ _ _ (by simp)).trans (by rw [set_list (cs := [_]) h4]; rfl)
  have e5 : ((We.setCell ⟨w.heap.size, 0, none⟩ (.string t)).setCell ⟨w.heap.size + 1, 0, none⟩ v).heap[w.heap.size + 1]? = some (.cells #[v] 24 (0, 0)) := by
    have e : (We.setCell ⟨w.heap.size, 0, none⟩ (.string t)).heap[w.heap.size + 1]? = some (.cells [y].toArray 24 (0, 0)) := (Below.heap_setCell _ _ _ _ (by simp)).trans h5
    rw [set_list e]; rfl
  refine ⟨hk, results_two tmps _ _ _ _ _ t4 t5 (cell_put e4 (by omega)) (cell_put e5 (by omega)), ?_⟩
  exact ((hB.setCell (p := ⟨w.heap.size, 0, none⟩) (Nat.le_refl _) _).setCell (p := ⟨w.heap.size + 1, 0, none⟩) (by simp) _).trans (belowK_b (w := w) (Nat.le_refl _) _ D _ _ (by omega) hk rfl rfl)
theorem end_left {nm s : List UInt8} {L : Nat} {w W : World} {j D : Nat} (hx : Left nm s L w .ret j W) (hD : w.heap.size + 2 ≤ D) (hK : W.heap[D]? = some (.deferred (some []))) (tmps : Array Value)
    (t4 : tmps[4]?.getD undef = .pointer (some ⟨w.heap.size, 0, none⟩)) (t5 : tmps[5]?.getD undef = .pointer (some ⟨w.heap.size + 1, 0, none⟩)) :
    ∃ v, (results Try.f13 tmps).run Try.prog (W.putObj D (.deferred none)) = .ok v (W.putObj D (.deferred none)) ∧ Refused 14 ((36 + 232 * j : Nat) : Int) (fun v => .tuple #[.string ⟨#[]⟩, v]) w (.returned v) (W.putObj D (.deferred none)) := by
  obtain ⟨_, _, hB, g, hg, hF, h4, h5⟩ := hx
  refine ⟨_, results_two tmps _ _ _ _ _ t4 t5 (cell_put h4 (by omega)) (cell_put h5 (by omega)), g, hg, rfl, (World.putObj_heap_other (cells_ne hF hK rfl)).trans hF, hB.trans (belowK_b (w := w) (Nat.le_refl _) _ D _ _ (by omega) hK rfl rfl)⟩
theorem ends_left {nm s : List UInt8} {L : Nat} {w W : World} {j D : Nat} (hx : Left nm s L w .ret j W) (hD : w.heap.size + 2 ≤ D) (hK : W.heap[D]? = some (.deferred (some []))) (he : Shd.opn nm s = .error (36 + 232 * j)) (tmps : Array Value)
    (t4 : tmps[4]?.getD undef = .pointer (some ⟨w.heap.size, 0, none⟩)) (t5 : tmps[5]?.getD undef = .pointer (some ⟨w.heap.size + 1, 0, none⟩)) :
    ∃ v, (results Try.f13 tmps).run Try.prog (W.putObj D (.deferred none)) = .ok v (W.putObj D (.deferred none)) ∧ ((∃ t, Shd.opn nm s = .ok t ∧ Ending.returned v = .returned (.tuple #[.string (bs t), .nilIface]) ∧ Below w.heap.size w (W.putObj D (.deferred none))) ∨
      (∃ a : Nat, Shd.opn nm s = .error a ∧ Refused 14 a (fun v => .tuple #[.string ⟨#[]⟩, v]) w (.returned v) (W.putObj D (.deferred none)))) := by
  obtain ⟨v, z1, z2⟩ := end_left hx hD hK tmps t4 t5
  exact ⟨v, z1, .inr ⟨_, he, z2⟩⟩
set_option maxRecDepth 100000 in
set_option maxHeartbeats 2000000 in
theorem Open_body (nm s : List UInt8) (hn : nm.length ≤ 220) (h : Shd.Headed nm s) (w : World) :
    Calls Try.prog 13 #[.string (bs nm), .string (bs s)] w fun e w' => (∃ t, Shd.opn nm s = .ok t ∧ e = .returned (.tuple #[.string (bs t), .nilIface]) ∧ Below w.heap.size w w') ∨
      (∃ a : Nat, Shd.opn nm s = .error a ∧ Refused 14 a (fun v => .tuple #[.string ⟨#[]⟩, v]) w e w') := by
  have hhd := h
  have HH := Lib.hid h
  rw [headed_iff] at h
  obtain ⟨hf, hp⟩ := h
  obtain ⟨_, hL, hsz, _⟩ := hhd
  refine (callsIn_wide (n := 4)).1 ?_
  refine callsIn_of_wp_marks Try.func13 rfl trivial ?_ rfl
  simp only [Try.ntmps13, List.size_toArray, List.length_cons, List.length_nil, Nat.reduceAdd, Nat.reduceSub, Array.replicate_succ, Array.replicate_zero, List.push_toArray, List.append_toArray, List.nil_append, List.cons_append]
  have hz1 : (bs nm).size = nm.length := bs_size nm
  have hz2 : (bs s).size = s.length := bs_size s
  have h36 : 36 ≤ s.length := by rw [hsz]; unfold Shd.size; omega
  have hle : s.length ≤ 20000 := by have := Shd.size_le hL; omega
  have CL := Lib.hid (fun v : World => lengthIn_any s v)
  rw [hf] at CL
  simp only [if_true] at CL
  obtain ⟨L, hLL⟩ : ∃ L, L = Shd.lenOf s := ⟨_, rfl⟩
  rw [← hLL] at CL hp hL hsz
  have CS := Lib.hid (fun v : World => sealOf_any nm L (by omega) v)
  have CH := Lib.hid (fun v : World => Hhead_any nm L hn v)
  obtain ⟨q, hq⟩ : ∃ q, q = Fr.be 4 L := ⟨_, rfl⟩
  rw [← hq] at CS CH
  obtain ⟨HD, hHD⟩ : ∃ x, x = Shd.head nm L := ⟨_, rfl⟩
  rw [← hHD] at CH hp
  have CP := Lib.hid (fun v : World => HasPrefix_any (bs s) (bs HD) v)
  rw [bs_list, bs_list, hp] at CP
  obtain ⟨R, hR⟩ : ∃ R, R = s.drop 36 := ⟨_, rfl⟩
  have hxR : (bs s).extract 36 s.length = bs R := by rw [hR, ← hz2]; refine bs_of ?_; rw [extract_from, bs_list]
  have HLL := Lib.hid hLL
  have HR := Lib.hid hR
  have HQ := Lib.hid hq
  have HSZ := Lib.hid hsz
  clear hf hq hHD hp hLL hR hsz
  gi_wp2_with (first | (refine wpListIn_alloc rfl 9 rfl _ allocStr ?_; go_frame) | (refine wpListIn_alloc rfl 24 rfl _ allocErr ?_; have HG0 := Lib.hid (two_size w); have H4 := Lib.hid (two_cells w).1; have H5 := Lib.hid (two_cells w).2; have HB2 := Lib.hid (two_below w); obtain ⟨w2, hw2⟩ : ∃ x, x = (w.alloc (.cells #[Value.string ⟨#[]⟩] 9)).alloc (.cells #[Value.nilIface] 24) := ⟨_, rfl⟩; rw [← hw2] at HG0 H4 H5 HB2 ⊢; clear hw2; go_frame) | (refine ⟨trivial, ?_⟩; gi_at_call 25; refine (callsIn_wide.2 (CL.out _)).mono ?_; rintro e w' ⟨rfl, rfl⟩) | (refine ⟨trivial, ?_⟩; gi_at_call 16; refine (callsIn_wide.2 (CS.out _)).mono ?_; rintro e w3 ⟨rfl, hb3⟩; have HB3 := Lib.hid (HB2.out.trans (hb3.mono HB2.out.size)); have G4a := Lib.hid ((hb3.block _ (lt_of_heap H4.out)).trans H4.out); have G5a := Lib.hid ((hb3.block _ (lt_of_heap H5.out)).trans H5.out); have HL3 := hb3.size; clear hb3) | (refine wpListIn_store_whole rfl 41 _ _ rfl w3.heap.size [.string (bs nm), .string (bs q)] [Value.string ⟨#[]⟩, .string ⟨#[]⟩] 41 rfl rfl (heap_alloc_new _ _) rfl (by kernel_rfl) (two_ones _ _) ?_; intro w6 h6 k6 s6; have hb6 := below_kept ((Below.refl w3.heap.size w3).alloc (Nat.le_refl _) _) k6.out (Nat.le_refl _); have HB6 := Lib.hid (HB3.out.trans (hb6.mono HB3.out.size)); have G4 := Lib.hid ((hb6.block _ (lt_of_heap G4a.out)).trans G4a.out); have G5 := Lib.hid ((hb6.block _ (lt_of_heap G5a.out)).trans G5a.out); have HL6 := hb6.size; clear hb6 k6 s6 G4a G5a; go_frame) | (refine wpListIn_load_guarded rfl 41 _ rfl w3.heap.size [.string (bs nm), .string (bs q)] 41 rfl h6.out _ Try.underlying41 rfl (by kernel_rfl) ?_; go_frame) | (refine ⟨trivial, ?_⟩; gi_at_call 18; refine (callsIn_wide.2 (CH.out _)).mono ?_; rintro e w7 ⟨rfl, hb7⟩; have HB7 := Lib.hid (HB6.out.trans (hb7.mono HB6.out.size)); have HL7 := hb7.size; have HX7 := Lib.hid ((hb7.block _ (lt_of_heap h6.out)).trans h6.out); have HLX := lt_of_heap h6.out; replace G4 := Lib.hid ((hb7.block _ (lt_of_heap G4.out)).trans G4.out); replace G5 := Lib.hid ((hb7.block _ (lt_of_heap G5.out)).trans G5.out); clear hb7) | (refine ⟨trivial, ?_⟩; gi_at_call 26; refine (callsIn_wide.2 (CP.out _)).mono ?_; rintro e w7b ⟨rfl, rfl⟩) | (refine wpListIn_alloc rfl 45 rfl _ allocBuilder ?_; go_frame) | (refine ⟨trivial, ?_⟩; gi_at_call 19; refine (callsIn_wide.2 (cut_any (bs R) 232 _)).mono ?_; rintro e w8 ⟨rfl, hw8⟩; have HW8 := Lib.hid hw8; clear hw8) | fail)
  have hw8 := HW8.out
  obtain ⟨e1, e2, e3, e4, e5⟩ := three_new w7b (bs R) 232 hw8
  have hr5 : w.heap.size + 2 ≤ w3.heap.size := Nat.le_trans HG0.out HL3
  have hsx : w3.heap.size < w7b.heap.size := Nat.lt_of_lt_of_le HLX HL7
  have HBw := HB7.out.trans (e5.mono HB7.out.size)
  have hR := HR.out
  have hsz := HSZ.out
  have hmR : Shd.many 232 R.length = Shd.many 200 L := by rw [hR]; exact Shd.many_blocks hsz
  have hRl : R.length ≤ 20000 := by rw [hR, List.length_drop]; omega
  have hst := cut1_stops Fence.wide (4 - 1) trivial rfl (by omega) 232 (by omega) (by omega) R (by omega) (w7b.heap.size + 1) (w7b.heap.size + 1 + 1) (by omega) w8 e2 e3
  rw [hmR] at hst
  clear hR hsz hmR
  refine wpIn_rangeFunc_cut rfl (by omega) (gf := 31) (lb := #[.pointer (some ⟨w7b.heap.size + 1, 0, none⟩), .pointer (some ⟨w7b.heap.size + 1 + 1, 0, none⟩)]) rfl trivial (enters_of Try.func31 (by kernel_rfl) rfl)
    hst (by omega) (by omega) (fun _ => rfl)
    (fun j W => LoopI w w7b.heap.size (w7b.heap.size + 1) [(w.heap.size, .cells #[Value.string ⟨#[]⟩] 9 (0, 0)), (w.heap.size + 1, .cells #[Value.nilIface] 24 (0, 0)), (w3.heap.size, .cells [Value.string (bs nm), .string (bs q)].toArray 41 (0, 0)), (w7b.heap.size + 1 + 1, .cells #[.int .i64 232] 3 (0, 0))] (fun j => Shd.told s L j) j W ∧ ∀ i, i < j → Shd.Good nm s L i)
    (fun c j W => Left nm s L w c j W)
    (AbidesCut.and_pure (LoopI.abides (by omega) (by omega) (by omega) (by intro p hp; simp at hp; rcases hp with rfl | rfl | rfl | rfl <;> rfl) (by intro p hp; simp at hp; rcases hp with rfl | rfl | rfl | rfl <;> simp <;> omega)))
    (fun c j W l o o' hl ho hc hx => hx.put (by omega) ho hc) ?start (fun j => { tmps := #[Value.string (bs nm), Value.string (bs s), undef, undef,
          Value.pointer (some { block := w.heap.size, off := 0 }),
          Value.pointer (some { block := w.heap.size + 1, off := 0 }), Value.int IntKind.i64 (L : Int), Value.bool true,
          Value.pointer (some { block := w3.heap.size, off := 0 }),
          Value.pointer (some { block := w7b.heap.size, off := 0 }), .int .i64 (j : Int), .string (bs (Shd.piece 232 R j)), undef, undef, Value.string (bs nm),
          Value.int IntKind.i64 (nm.length : Int), Value.bool (decide (220 < (nm.length : Int))), undef,
          Value.tuple #[Value.int IntKind.i64 (L : Int), Value.bool true], Value.string (bs s),
          Value.tuple #[Value.int IntKind.i64 (L : Int), Value.bool true], Value.int IntKind.i64 (L : Int), Value.bool true,
          Value.string (bs nm), Value.int IntKind.i64 (L : Int), Value.agg #[Value.string (bs nm), Value.string (bs q)],
          Value.bool true, Value.bool false, Value.bool false, Value.string (bs s),
          Value.agg #[Value.string (bs nm), Value.string (bs q)], Value.string (bs HD), Value.bool true,
          Value.bool false, Value.bool false, undef, Value.string (bs s), Value.string (bs R),
          Value.func (Fn.func 31) #[]
            #[Value.pointer (some { block := w7b.heap.size + 1, off := 0 }),
              Value.pointer (some { block := w7b.heap.size + 1 + 1, off := 0 })],
          .int .i64 (j : Int), .string (bs (Shd.piece 232 R j)), undef, undef, undef, undef, undef, undef, undef, undef, undef, undef, undef, undef, undef,
          undef, undef, undef, undef, undef, undef, undef, undef, undef, undef], defers := [] }) ?assign ?body ?done ?stop
  case start =>
    refine ⟨⟨?_, HBw, ?_, _, e2⟩, fun i hi => by omega⟩
    · show Bldr w7b.heap.size (Shd.told s L 0) w8
      rw [Shd.told_zero]
      exact Bldr.fresh e1
    · intro p hp
      simp at hp
      rcases hp with rfl | rfl | rfl | rfl
      · exact (e5.block _ (by simp; omega)).trans G4.out
      · exact (e5.block _ (by simp; omega)).trans G5.out
      · exact (e5.block _ (by simp; omega)).trans HX7.out
      · exact e3
  case assign =>
    intro l x W K hK
    gi_wp2
    exact hK
  case body =>
    intro l j W hj hI
    obtain ⟨hLI, hgood⟩ := hI
    obtain ⟨hps, hol, hsl⟩ := Shd.piece_split HSZ.out hj
    rw [← HR.out] at hps
    have hj50 : j < 51 := by unfold Shd.many at hj; omega
    have htl := Shd.told_le HSZ.out (Nat.le_of_lt hj)
    obtain ⟨P, hP⟩ : ∃ P, P = Shd.piece 232 R j := ⟨_, rfl⟩
    obtain ⟨ob, hob⟩ : ∃ ob, ob = Shd.oblk s L j := ⟨_, rfl⟩
    obtain ⟨os, hos⟩ : ∃ os, os = Shd.osum s L j := ⟨_, rfl⟩
    obtain ⟨sm, hsm⟩ : ∃ sm, sm = Shd.sumOf nm L j ob := ⟨_, rfl⟩
    rw [← hP, ← hob, ← hos] at hps
    rw [← hob] at hol
    rw [← hos] at hsl
    rw [← hP]
    have hobl : ob.length ≤ 200 := by rw [hol]; omega
    have hPz : (bs P).size = ob.length + 32 := by rw [bs_size, hps, List.length_append, hsl]
    have hx1 : (bs P).extract 0 ob.length = bs ob := by refine bs_of ?_; rw [extract_to, bs_list, hps, List.take_left]
    have hx2 : (bs P).extract ob.length (ob.length + 32) = bs os := by rw [← hPz]; refine bs_of ?_; rw [extract_from, bs_list, hps, List.drop_left]
    have CM := Lib.hid (fun v : World => HsumOf_any nm L j ob hn (by omega) hobl v)
    rw [← hsm, ← HQ.out] at CM
    have hgs : Shd.Good nm s L j ↔ os = sm := by rw [Shd.Good, hos, hsm, hob]
    have HGS := Lib.hid hgs
    have HOB := Lib.hid hob
    have hbz : (bs ob).size = ob.length := bs_size ob
    have hmx : Try.prog.follows .mixedOrders = true := by kernel_rfl
    have HLI := Lib.hid hLI
    obtain ⟨hB, hW, hfx, x, hx⟩ := hLI
    have HSX := Lib.hid (hfx (w3.heap.size, .cells [Value.string (bs nm), .string (bs q)].toArray 41 (0, 0)) (by simp))
    have H4W := Lib.hid (hfx (w.heap.size, .cells #[Value.string ⟨#[]⟩] 9 (0, 0)) (by simp))
    have H5W := Lib.hid (hfx (w.heap.size + 1, .cells #[Value.nilIface] 24 (0, 0)) (by simp))
    have HBl := Lib.hid hB
    have HTL := Lib.hid htl
    have HGD := Lib.hid hgood
    clear hB hW hfx hx hps hol hsl hP hob hos hsm hgs htl hgood
    obtain ⟨n, hnn⟩ : ∃ n, n = ob.length := ⟨_, rfl⟩
    rw [← hnn] at hPz hx1 hx2 hobl hbz
    have HOBL := Lib.hid hobl
    have HZZ := Lib.hid (And.intro hr5 (And.intro hsx (And.intro hj50 e4)))
    have HL200 := Lib.hid hL
    have HJ := Lib.hid hj
    have hw1 := w200 n hobl
    clear hst hw8 e1 e2 e3 e4 e5 HBw hRl h36 hle hz1 hz2 hxR hr5 hsx hj50 hobl hL hj HLX HL3 HL6 HL7
    have hw2 := z200 n
    have hw3 := l200 n
    have HNN := Lib.hid hnn
    clear hnn
    gi_wp2
    refine wpIn_region_quiet_round rfl hmx (by kernel_rfl) (by kernel_rfl) ?_
    repeat (gi_big_quiet_step (fail))
    refine wpQuietIn_nil ?_
    intro _ hw'
    obtain ⟨nq, hw''⟩ := hw'
    subst hw''
    have HFd := Lib.hid (show Far w7b.heap.size W (W.drewN nq) from ⟨Nat.le_refl _, fun _ _ _ _ e => e⟩)
    have HBd := Lib.hid (show Bldr w7b.heap.size (Shd.told s L j) (W.drewN nq) from HBl.out.keep (fun _ _ _ _ _ _ => rfl))
    have HWd := Lib.hid (show Below w.heap.size W (W.drewN nq) from below_drewN (Below.refl _ _) nq)
    have HSd := Lib.hid (show (W.drewN nq).heap[w3.heap.size]? = some (.cells [Value.string (bs nm), .string (bs q)].toArray 41 (0, 0)) from HSX.out)
    have H4d := Lib.hid (show (W.drewN nq).heap[w.heap.size]? = some (.cells #[Value.string ⟨#[]⟩] 9 (0, 0)) from H4W.out)
    have H5d := Lib.hid (show (W.drewN nq).heap[w.heap.size + 1]? = some (.cells #[Value.nilIface] 24 (0, 0)) from H5W.out)
    obtain ⟨Wd, hWd⟩ : ∃ x, x = W.drewN nq := ⟨_, rfl⟩
    rw [← hWd] at HFd HBd HWd HSd H4d H5d ⊢
    clear hWd HBl HSX H4W H5W hw1 hw2 hw3 hmx hPz hx1 hx2
    by_cases hg : os = sm
    · have hcmp : ((bs os).toList == (bs sm).toList) = true := by rw [hg]; exact beq_self_eq_true _
      have HG2 := Lib.hid (HGS.out.2 hg)
      have HLN := Lib.hid (show (Shd.told s L j).length + (bs ob).size ≤ 140737488355328 by rw [hbz]; have := HTL.out; have := HOBL.out; have := HL200.out; omega)
      clear hg hbz
      gi_wp2_with (first | (refine wpListIn_load_whole rfl 41 _ rfl w3.heap.size [.string (bs nm), .string (bs q)] 41 rfl HSd.out _ Try.underlying41 rfl (by kernel_rfl) ?_; go_frame) | (refine ⟨trivial, ?_⟩; gi_at_call 20; refine (CallsIn.inRound l (callsIn_wide.2 (CM.out _))).mono ?_; rintro e Wb ⟨rfl, hbc⟩; have HFb := Lib.hid (HFd.out.trans (Far.of_below hbc)); have HBb := Lib.hid (HBd.out.keep (w' := Wb) (fun k cs T fr h _ => hbc.block k (lt_of_heap h))); have HWb := Lib.hid (HWd.out.trans (hbc.mono (Nat.le_trans HLI.out.2.1.size HWd.out.size))); clear hbc HFd HBd HWd) | (refine ⟨trivial, ?_⟩; gi_at_call 17; refine (CallsIn.inRound l (callsIn_wide.2 (Put_far w7b.heap.size _ _ _ HBb.out HLN.out))).mono ?_; rintro e Wc ⟨rfl, ⟨hba, hbb⟩, hfa⟩; have HFc := Lib.hid (HFb.out.trans hfa); have HBc := Lib.hid (Bldr.of_built hba); have HWc := Lib.hid (HWb.out.trans (hbb.mono (by have := HZZ.out; omega))); clear hba hbb hfa HFb HBb HWb) | fail)
      obtain ⟨y1, y2, y3, y4⟩ := HZZ.out
      have hc : cutPost w8.heap.size (w7b.heap.size + 1) (w7b.heap.size + 1 + 1) (LoopI w w7b.heap.size (w7b.heap.size + 1) [(w.heap.size, .cells #[Value.string ⟨#[]⟩] 9 (0, 0)), (w.heap.size + 1, .cells #[Value.nilIface] 24 (0, 0)), (w3.heap.size, .cells [Value.string (bs nm), .string (bs q)].toArray 41 (0, 0)), (w7b.heap.size + 1 + 1, .cells #[.int .i64 232] 3 (0, 0))] (fun j => Shd.told s L j)) (fun _ _ _ => False) j W .normal { tmps := #[], defers := [] } Wc := by
        refine LoopI.next (by omega) (by omega) (by intro p hp; simp at hp; rcases hp with rfl | rfl | rfl | rfl <;> rfl) (by intro p hp; simp at hp; rcases hp with rfl | rfl | rfl | rfl <;> simp <;> omega) HLI.out (by simp; exact Or.inr (Or.inr (Or.inr rfl))) HFc.out HWc.out ?_
        show Bldr w7b.heap.size (Shd.told s L (j + 1)) Wc
        rw [Shd.told_succ, ← HOB.out]
        have := HBc.out
        rwa [bs_list] at this
      refine ⟨hc.1, hc.2.1, hc.2.2, fun i hi => ?_⟩
      by_cases e : i = j
      · rw [e]; exact HG2.out
      · exact HGD.out i (by omega)
    · have hcmp : ((bs os).toList == (bs sm).toList) = false := by
        rw [beq_eq_false_iff_ne, ByteArray.toList_eq, ByteArray.toList_eq, bs_list, bs_list]; exact hg
      have HG2 := Lib.hid (fun h => hg (HGS.out.1 h))
      clear hg hbz
      gi_wp2_with (first | (refine wpListIn_load_whole rfl 41 _ rfl w3.heap.size [.string (bs nm), .string (bs q)] 41 rfl HSd.out _ Try.underlying41 rfl (by kernel_rfl) ?_; go_frame) | (refine ⟨trivial, ?_⟩; gi_at_call 20; refine (CallsIn.inRound l (callsIn_wide.2 (CM.out _))).mono ?_; rintro e Wb ⟨rfl, hbc⟩; have HFb := Lib.hid (HFd.out.trans (Far.of_below hbc)); have HWb := Lib.hid (HWd.out.trans (hbc.mono (Nat.le_trans HLI.out.2.1.size HWd.out.size))); have H4b := Lib.hid ((hbc.block _ (lt_of_heap H4d.out)).trans H4d.out); have H5b := Lib.hid ((hbc.block _ (lt_of_heap H5d.out)).trans H5d.out); clear hbc HFd HBd HWd) | (refine ⟨trivial, ?_⟩; gi_at_call 15; refine (CallsIn.inRound l (callsIn_wide.2 (Hfault_any 14 _ _))).mono ?_; rintro e Wc ⟨rfl, hfa, hbb⟩; have HFb0 := Lib.hid HFb.out.1; have HFc := Lib.hid (HFb.out.trans (Far.of_below hbb)); have HFA := Lib.hid hfa; have HWc := Lib.hid (HWb.out.trans (hbb.mono (Nat.le_trans HLI.out.2.1.size HWb.out.size))); have H4c := Lib.hid ((hbb.block _ (lt_of_heap H4b.out)).trans H4b.out); have H5c := Lib.hid ((hbb.block _ (lt_of_heap H5b.out)).trans H5b.out); obtain ⟨c4, f4⟩ := cells2 H4c.out; obtain ⟨c5, f5⟩ := cells2 H5c.out; clear hfa hbb HFb) | fail)
      obtain ⟨y1, y2, y3, y4⟩ := HZZ.out
      refine ⟨fun k o hk e hc => ?_, rfl, ⟨HG2.out, HGD.out⟩, ?_, Wb.heap.size, Nat.le_trans HLI.out.2.1.size HWb.out.size, ?_, ?_, ?_⟩
      · exact (Below.heap_setCell _ _ _ _ (by simp; omega)).trans ((Below.heap_setCell _ _ _ _ (by simp; omega)).trans (HFc.out.2 k o (by omega) (by cases o <;> first | rfl | simp [Obj.isCells] at hc) e))
      · exact ((HLI.out.2.1.trans HWc.out).setCell (p := ⟨w.heap.size, 0, none⟩) (Nat.le_refl _) _).setCell (p := ⟨w.heap.size + 1, 0, none⟩) (by simp) _
      · have := HWb.out.size
        have := HLI.out.2.1.size
        have := HLI.out.1.lt
        have := HFb0.out
        refine (Below.heap_setCell _ _ _ _ (by simp; omega)).trans ((Below.heap_setCell _ _ _ _ (by simp; omega)).trans ?_)
        have e := at_is j y3
        have := HFA.out
        rw [e] at this
        exact this
      · exact (Below.heap_setCell _ _ _ _ (by simp)).trans (by rw [set_list (cs := [_]) H4c.out]; rfl)
      · have e : (Wc.setCell ⟨w.heap.size, 0, none⟩ (.string ⟨#[]⟩)).heap[w.heap.size + 1]? = some (.cells [Value.nilIface].toArray 24 (0, 0)) := (Below.heap_setCell _ _ _ _ (by simp)).trans H5c.out
        rw [set_list e]; rfl
  case done =>
    intro D W hD hI hK
    obtain ⟨⟨hB, hW, hfx, _⟩, hgd⟩ := hI
    have HBl := Lib.hid hB
    have HW := Lib.hid hW
    have HK := Lib.hid hK
    have H4W := Lib.hid (hfx (w.heap.size, .cells #[Value.string ⟨#[]⟩] 9 (0, 0)) (by simp))
    have H5W := Lib.hid (hfx (w.heap.size + 1, .cells #[Value.nilIface] 24 (0, 0)) (by simp))
    have HGD := Lib.hid hgd
    have HN := Lib.hid (show w.heap.size < w7b.heap.size ∧ w.heap.size + 2 ≤ D ∧ w7b.heap.size < D ∧ w.heap.size + 1 < w7b.heap.size by omega)
    clear hB hW hK hfx hgd hst hw8 e1 e2 e3 e4 e5 HBw hRl h36 hle hz1 hz2 hxR hr5 hsx hL hD HLX HL3 HL6 HL7
    gi_wp2_with (first | (refine ⟨trivial, ?_⟩; gi_at_call 21; refine (callsIn_wide.2 (Told_far w7b.heap.size _ _ HBl.out)).mono ?_; rintro e We ⟨rfl, hba, hfa⟩; have HWe := Lib.hid (HW.out.trans (hba.mono (Nat.le_of_lt HN.out.1))); have HKe := Lib.hid (hfa.2 _ _ (by have := HN.out; omega) rfl HK.out); have H4e := Lib.hid (hfa.2 _ _ (by have := HN.out; omega) rfl H4W.out); have H5e := Lib.hid (hfa.2 _ _ (by have := HN.out; omega) rfl H5W.out); obtain ⟨c4, f4⟩ := cells2 H4e.out; obtain ⟨c5, f5⟩ := cells2 H5e.out; clear hba hfa) | fail)
    have z := end_told (bs (Shd.told s L (Shd.many 200 L))) .nilIface _ _ HWe.out HN.out.2.1 HKe.out H4e.out H5e.out
    refine ⟨by simp, .inl ⟨_, _, rfl, run_takeDeferred (z #[undef, undef, undef, undef, .pointer (some ⟨w.heap.size, 0, none⟩), .pointer (some ⟨w.heap.size + 1, 0, none⟩)] rfl rfl).1, ?_⟩⟩
    refine ⟨_, (z _ ?_ ?_).2.1, .inl ⟨_, ?_, rfl, (z #[undef, undef, undef, undef, .pointer (some ⟨w.heap.size, 0, none⟩), .pointer (some ⟨w.heap.size + 1, 0, none⟩)] rfl rfl).2.2⟩⟩
    · rfl
    · rfl
    have := Shd.opn_all HH.out
    rw [← HLL.out] at this
    exact this HGD.out
  case stop =>
    intro D c j W hD hj hx hK
    obtain rfl : c = .ret := hx.1
    have HX := Lib.hid hx
    have HK := Lib.hid hK
    have HN := Lib.hid (show w.heap.size + 2 ≤ D by omega)
    have HJ := Lib.hid hj
    clear hx hK hst hw8 e1 e2 e3 e4 e5 HBw hRl h36 hle hz1 hz2 hxR hr5 hsx hL hD hj HLX HL3 HL6 HL7
    gi_wp2
    refine ⟨by simp, .inl ⟨_, _, rfl, run_takeDeferred HK.out, ?_⟩⟩
    have he : Shd.opn nm s = .error (36 + 232 * j) := by
      have := Shd.opn_rot HH.out (j := j)
      rw [← HLL.out] at this
      exact this HJ.out HX.out.2.1.2 HX.out.2.1.1
    refine ends_left HX.out HN.out HK.out he _ ?_ ?_
    · rfl
    · rfl
end Go.Proofs.Ytdimkgidaioolaa

/- The walk of layer 9's Seal. -/
import Derived.Test.YtdimkgidaioolaaHLoop
namespace Go.Proofs.Ytdimkgidaioolaa
open Go.RowKit Go.Shelf
attribute [local go_sem] Oper.semAt_some

set_option maxRecDepth 100000 in
set_option maxHeartbeats 2000000 in
theorem Seal_ok (nm t : List UInt8) (hn : nm.length ≤ 220) (ht : t.length ≤ 10000) (w : World) :
    Calls Try.prog 8 #[.string (bs nm), .string (bs t)] w fun e w' => e = .returned (.tuple #[.string (bs (Shd.sld nm t)), .nilIface]) ∧ Below w.heap.size w w' := by
  refine (callsIn_wide (n := 4)).1 ?_
  refine callsIn_of_wp_marks Try.func8 rfl trivial ?_ rfl
  simp only [Try.ntmps8, List.size_toArray, List.length_cons, List.length_nil, Nat.reduceAdd, Nat.reduceSub, Array.replicate_succ, Array.replicate_zero, List.push_toArray, List.append_toArray, List.nil_append, List.cons_append]
  have hz1 : (bs nm).size = nm.length := bs_size nm
  have hz2 : (bs t).size = t.length := bs_size t
  have CS := Lib.hid (fun v : World => sealOf_any nm t.length (by omega) v)
  have CH := Lib.hid (fun v : World => Hhead_any nm t.length hn v)
  obtain ⟨L, hL⟩ : ∃ L, L = Fr.be 4 t.length := ⟨_, rfl⟩
  rw [← hL] at CS CH
  have HL := Lib.hid hL
  clear hL
  obtain ⟨HD, hHD⟩ : ∃ x, x = Shd.head nm t.length := ⟨_, rfl⟩
  have hHDl : HD.length = 36 := by rw [hHD, Shd.length_head]
  rw [← hHD] at CH
  have hz3 : (bs HD).size = 36 := by rw [bs_size, hHDl]
  have HHD := Lib.hid hHD
  clear hHD
  gi_wp2_with (first | (refine ⟨trivial, ?_⟩; gi_at_call 16; refine (callsIn_wide.2 (CS.out _)).mono ?_; rintro e w1 ⟨rfl, hb1⟩; have HB1 := Lib.hid hb1; clear hb1) | (refine wpListIn_store_whole rfl 41 _ _ rfl w1.heap.size [.string (bs nm), .string (bs L)] [Value.string ⟨#[]⟩, .string ⟨#[]⟩] 41 rfl rfl (heap_alloc_new _ _) rfl (by kernel_rfl) (two_ones _ _) ?_; intro w2 h2 k2 s2; have HB2 := Lib.hid (HB1.out.trans ((below_kept ((Below.refl w1.heap.size w1).alloc (Nat.le_refl _) _) k2.out (Nat.le_refl _)).mono HB1.out.size)); have hlt2 : w1.heap.size < w2.heap.size := lt_of_heap h2.out; clear k2 s2; go_frame) | (refine wpListIn_alloc rfl 45 rfl _ allocBuilder ?_; have HSX := Lib.hid ((Below.heap_alloc w2 (.cells [Value.pointer none, .slice none 0 0].toArray 45) _ hlt2).trans h2.out); have HBL := Lib.hid (Bldr.fresh (heap_alloc_new w2 (.cells [Value.pointer none, .slice none 0 0].toArray 45))); have HB3 := Lib.hid (HB2.out.alloc HB2.out.size (.cells [Value.pointer none, .slice none 0 0].toArray 45)); clear h2; obtain ⟨w3, hw3⟩ : ∃ x, x = w2.alloc (.cells [Value.pointer none, .slice none 0 0].toArray 45) := ⟨_, rfl⟩; rw [← hw3] at HSX HBL HB3 ⊢; clear hw3; go_frame) | (refine wpListIn_load_whole rfl 41 _ rfl w1.heap.size [.string (bs nm), .string (bs L)] 41 rfl HSX.out _ Try.underlying41 rfl (by kernel_rfl) ?_; go_frame) | (refine ⟨trivial, ?_⟩; gi_at_call 18; refine (callsIn_wide.2 (CH.out _)).mono ?_; rintro e w4 ⟨rfl, hb4⟩; have HSX4 := Lib.hid ((hb4.block _ (lt_of_heap HSX.out)).trans HSX.out); have HB4 := Lib.hid (HB3.out.trans (hb4.mono HB3.out.size)); have HBL4 := Lib.hid (HBL.out.keep (fun k cs T fr h _ => hb4.block k (lt_of_heap h))); clear hb4 HSX HB3 HBL) | (refine ⟨trivial, ?_⟩; gi_at_call 17; refine (callsIn_wide.2 (Put_far w2.heap.size [] (bs HD) _ HBL4.out (by rw [hz3]; simp))).mono ?_; rintro e w5 ⟨rfl, ⟨hbl5, hb5⟩, hf5⟩; have HSX5 := Lib.hid (hf5.2 _ _ (by omega) rfl HSX4.out); have HBL5 := Lib.hid (Bldr.of_built hbl5); have HB5 := Lib.hid (HB4.out.trans (hb5.mono HB2.out.size)); clear hbl5 hb5 hf5 HSX4 HB4 HBL4) | (refine ⟨trivial, ?_⟩; gi_at_call 19; refine (callsIn_wide.2 (cut_any (bs t) 200 _)).mono ?_; rintro e w6 ⟨rfl, hw6⟩; have HW6 := Lib.hid hw6; clear hw6) | fail)
  have hw6 := HW6.out
  have hT6 : w6.heap[w5.heap.size]? = some (.cells #[.string (bs t)] 9 (0, 0)) := by rw [hw6]; exact (Below.heap_alloc _ _ _ (by simp)).trans (heap_alloc_new _ _)
  have hS6 : w6.heap[w5.heap.size + 1]? = some (.cells #[.int .i64 200] 3 (0, 0)) := by
    rw [hw6]
    have := heap_alloc_new (w5.alloc (.cells #[.string (bs t)] 9)) (.cells #[.int .i64 200] 3)
    rwa [World.size_alloc] at this
  have hsz : w6.heap.size = w5.heap.size + 2 := by rw [hw6]; simp
  have hb6 : Below w5.heap.size w5 w6 := by rw [hw6]; exact ((Below.refl _ _).alloc (Nat.le_refl _) _).alloc (by simp) _
  have hsx : w1.heap.size < w2.heap.size := hlt2
  have hsb : w2.heap.size < w5.heap.size := HBL5.out.lt
  have hw : w.heap.size ≤ w1.heap.size := HB1.out.size
  have HBw := HB5.out.trans (hb6.mono HB5.out.size)
  have hcon : ∀ j, (bs (Shd.piece 200 t j)).size ≤ 200 := fun j => by rw [bs_size, Shd.length_piece]; omega
  refine wpIn_rangeFunc_cut rfl (by omega) (gf := 31) (lb := #[.pointer (some ⟨w5.heap.size, 0, none⟩), .pointer (some ⟨w5.heap.size + 1, 0, none⟩)]) rfl trivial (enters_of Try.func31 (by kernel_rfl) rfl)
    (cut1_stops Fence.wide (4 - 1) trivial rfl (by omega) 200 (by omega) (by omega) t (by omega) w5.heap.size (w5.heap.size + 1) (by omega) w6 hT6 hS6) (by omega) (by omega) (fun _ => rfl)
    (LoopI w w2.heap.size w5.heap.size [(w1.heap.size, .cells [Value.string (bs nm), .string (bs L)].toArray 41 (0, 0)), (w5.heap.size + 1, .cells #[.int .i64 200] 3 (0, 0))] (fun j => HD ++ Shd.body nm t j))
    (fun _ _ _ => False)
    (LoopI.abides (by omega) (by omega) (by omega) (by intro p hp; simp at hp; rcases hp with rfl | rfl <;> rfl) (by intro p hp; simp at hp; rcases hp with rfl | rfl <;> simp <;> omega))
    (fun _ _ _ _ _ _ _ _ _ h => h) ?start (fun j => { tmps := #[Value.string (bs nm), Value.string (bs t), undef, undef, Value.string { data := #[] }, Value.nilIface,
          Value.pointer (some { block := w1.heap.size, off := 0 }),
          Value.pointer (some { block := w2.heap.size, off := 0 }), .int .i64 (j : Int), .string (bs (Shd.piece 200 t j)), Value.string (bs nm),
          Value.int IntKind.i64 nm.length, Value.bool (decide (220 < (nm.length : Int))),
          Value.bool (decide (220 < (nm.length : Int))), Value.string (bs t), Value.int IntKind.i64 t.length,
          Value.bool (decide (10000 < (t.length : Int))), Value.bool (decide (220 < (nm.length : Int)) || decide (10000 < (t.length : Int))),
          undef, Value.string (bs nm), Value.string (bs t), Value.int IntKind.i64 t.length,
          Value.agg #[Value.string (bs nm), Value.string (bs L)],
          Value.agg #[Value.string (bs nm), Value.string (bs L)], Value.string (bs HD),
          Value.tuple #[Value.int IntKind.i64 36, Value.nilIface], Value.string (bs t),
          Value.func (Fn.func 31) #[]
            #[Value.pointer (some { block := w5.heap.size, off := 0 }),
              Value.pointer (some { block := w5.heap.size + 1, off := 0 })],
          .int .i64 (j : Int), .string (bs (Shd.piece 200 t j)), undef, undef, undef, undef, undef, undef, undef, undef], defers := [] }) ?assign ?body ?done ?stop
  case start =>
    refine ⟨?_, HBw, ?_, _, hT6⟩
    · have := HBL5.out.keep (w' := w6) (fun k cs T fr h _ => hb6.block k (lt_of_heap h))
      rw [List.nil_append, bs_list] at this
      show Bldr w2.heap.size (HD ++ Shd.body nm t 0) w6
      rw [Shd.body_zero, List.append_nil]
      exact this
    · intro p hp
      simp at hp
      rcases hp with rfl | rfl
      · exact (hb6.block _ (by omega)).trans HSX5.out
      · exact hS6
  case assign =>
    intro l x W K hK
    gi_wp2
    exact hK
  case body =>
    intro l j W hj hI
    obtain ⟨hB, hW, hfx, x, hx⟩ := hI
    have hj50 : j < 50 := by unfold Shd.many at hj; omega
    have hbl := Shd.length_body nm t j (Nat.le_of_lt hj)
    have hl0 : (HD ++ Shd.body nm t j).length ≤ 20000 := by rw [List.length_append, hbl]; omega
    have hl1 : (HD ++ Shd.body nm t j).length + (bs (Shd.piece 200 t j)).size ≤ 140737488355328 := by have := hcon j; omega
    have hl2 : ((HD ++ Shd.body nm t j) ++ (bs (Shd.piece 200 t j)).data.toList).length + (bs (Shd.sumOf nm t.length j (Shd.piece 200 t j))).size ≤ 140737488355328 := by
      rw [bs_size (Shd.sumOf nm t.length j (Shd.piece 200 t j)), Shd.length_sumOf, List.length_append, size_toList]; have := hcon j; omega
    have CM := Lib.hid (fun v : World => HsumOf_any nm t.length j (Shd.piece 200 t j) hn (by omega) (by have := hcon j; rwa [bs_size] at this) v)
    rw [← HL.out] at CM
    have hsxW := hfx (w1.heap.size, .cells [Value.string (bs nm), .string (bs L)].toArray 41 (0, 0)) (by simp)
    have HI : Hid (LoopI w w2.heap.size w5.heap.size [(w1.heap.size, .cells [Value.string (bs nm), .string (bs L)].toArray 41 (0, 0)), (w5.heap.size + 1, .cells #[.int .i64 200] 3 (0, 0))] (fun j => HD ++ Shd.body nm t j) j W) := Lib.hid ⟨hB, hW, hfx, x, hx⟩
    have HBl := Lib.hid hB
    have HSW := Lib.hid hsxW
    have HL1 := Lib.hid hl1
    have HL2 := Lib.hid hl2
    clear hB hW hfx hx hbl hl0 hl1 hl2 hsxW
    gi_wp2_with (first | (refine ⟨trivial, ?_⟩; gi_at_call 17; refine (CallsIn.inRound l (callsIn_wide.2 (Put_far w2.heap.size _ _ _ HBl.out HL1.out))).mono ?_; rintro e Wa ⟨rfl, ⟨hba, hbb⟩, hfa⟩; have HFa := Lib.hid hfa; have HBa := Lib.hid (Bldr.of_built hba); have HBb := Lib.hid (hbb.mono (by exact Nat.le_trans hw (Nat.le_of_lt hsx)) : Below w.heap.size W Wa); have HSa := Lib.hid (hfa.2 _ _ (by omega) rfl HSW.out); clear hba hbb hfa HSW HBl HL1) | (refine wpListIn_load_whole rfl 41 _ rfl w1.heap.size [.string (bs nm), .string (bs L)] 41 rfl HSa.out _ Try.underlying41 rfl (by kernel_rfl) ?_; go_frame) | (refine ⟨trivial, ?_⟩; gi_at_call 20; refine (CallsIn.inRound l (callsIn_wide.2 (CM.out _))).mono ?_; rintro e Wb ⟨rfl, hbc⟩; have HFb := Lib.hid (HFa.out.trans (Far.of_below hbc)); have HBc := Lib.hid (HBa.out.keep (w' := Wb) (fun k cs T fr h _ => hbc.block k (lt_of_heap h))); have HBd := Lib.hid (HBb.out.trans (hbc.mono (by have := HBb.out.size; have := HI.out.2.1.size; omega))); clear hbc HFa HBa HBb) | (refine ⟨trivial, ?_⟩; gi_at_call 17; refine (CallsIn.inRound l (callsIn_wide.2 (Put_far w2.heap.size _ _ _ HBc.out HL2.out))).mono ?_; rintro e Wc ⟨rfl, ⟨hba, hbb⟩, hfa⟩; have HFc := Lib.hid (HFb.out.trans hfa); have HBe := Lib.hid (Bldr.of_built hba); have HBf := Lib.hid (HBd.out.trans (hbb.mono (by exact Nat.le_trans hw (Nat.le_of_lt hsx)))); clear hba hbb hfa HFb HBc HBd) | fail)
    refine LoopI.next (by omega) (by omega) (by intro p hp; simp at hp; rcases hp with rfl | rfl <;> rfl) (by intro p hp; simp at hp; rcases hp with rfl | rfl <;> simp <;> omega) HI.out (by simp; exact Or.inr rfl) HFc.out HBf.out ?_
    have := HBe.out
    rw [bs_list, bs_list] at this
    show Bldr w2.heap.size (HD ++ Shd.body nm t (j + 1)) Wc
    rw [Shd.body_succ]
    unfold Shd.blk
    rw [← List.append_assoc, ← List.append_assoc]
    exact this
  case done =>
    intro D W hD hI hK
    obtain ⟨hB, hW, _⟩ := hI
    have HBl := Lib.hid hB
    have HW := Lib.hid hW
    have HK := Lib.hid hK
    clear hB hW hK
    gi_wp2_with (first | (refine ⟨trivial, ?_⟩; gi_at_call 21; refine (callsIn_wide.2 (Told_far w2.heap.size _ _ HBl.out)).mono ?_; rintro e We ⟨rfl, hba, hfa⟩; have HWe := Lib.hid (HW.out.trans (hba.mono (by exact Nat.le_trans hw (Nat.le_of_lt hsx)))); have HKe := Lib.hid (hfa.2 _ _ (by omega) rfl HK.out); clear hba hfa) | fail)
    have he : HD ++ Shd.body nm t (Shd.many 200 t.length) = Shd.sld nm t := by rw [HHD.out, Shd.seal_eq]
    rw [he]
    refine ⟨by simp, .inl ⟨_, _, rfl, run_takeDeferred HKe.out, ?_⟩⟩
    exact ⟨_, results_tmp2 rfl _ _ _, rfl, HWe.out.trans (belowK_b (w := w) (Nat.le_refl _) We D _ _ (by omega) HKe.out rfl rfl)⟩
  case stop =>
    intro D c j W _ _ h _
    exact h.elim
theorem Seal_bad (nm t : ByteArray) (h : 220 < nm.size ∨ 10000 < t.size) (w : World) :
    Calls Try.prog 8 #[.string nm, .string t] w (Refused 1 0 (fun v => .tuple #[.string ⟨#[]⟩, v]) w) := by
  refine (callsIn_wide (n := 4)).1 ?_
  refine callsIn_of_wp_marks Try.func8 rfl trivial ?_ rfl
  simp only [Try.ntmps8, List.size_toArray, List.length_cons, List.length_nil, Nat.reduceAdd, Nat.reduceSub, Array.replicate_succ, Array.replicate_zero, List.push_toArray, List.append_toArray, List.nil_append, List.cons_append]
  have hor : (decide (220 < (nm.size : Int)) || decide (10000 < (t.size : Int))) = true := by
    rcases h with h | h
    · rw [decide_eq_true (by omega)]; rfl
    · rw [decide_eq_true (show 10000 < (t.size : Int) by omega), Bool.or_true]
  by_cases h1 : 220 < nm.size
  · clear h
    gi_wp2_with (first | (refine ⟨trivial, ?_⟩; gi_at_call 15; refine (callsIn_wide.2 (Hfault_any 1 0 _)).mono ?_; rintro e w1 ⟨rfl, hf1, hb1⟩; have HF1 := Lib.hid hf1; have HB1 := Lib.hid hb1; clear hf1 hb1) | fail)
    exact ⟨_, results_tmp2 rfl _ _ _, ⟨w.heap.size, Nat.le_refl _, rfl, HF1.out, HB1.out⟩⟩
  · have h2 : 10000 < t.size := by omega
    clear h
    gi_wp2_with (first | (refine ⟨trivial, ?_⟩; gi_at_call 15; refine (callsIn_wide.2 (Hfault_any 1 0 _)).mono ?_; rintro e w1 ⟨rfl, hf1, hb1⟩; have HF1 := Lib.hid hf1; have HB1 := Lib.hid hb1; clear hf1 hb1) | fail)
    exact ⟨_, results_tmp2 rfl _ _ _, ⟨w.heap.size, Nat.le_refl _, rfl, HF1.out, HB1.out⟩⟩
end Go.Proofs.Ytdimkgidaioolaa

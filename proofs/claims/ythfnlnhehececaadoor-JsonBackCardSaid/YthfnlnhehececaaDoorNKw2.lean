/- The program's writer: what is in a list or an object. -/
import Derived.Test.YthfnlnhehececaaDoorNKw
import Derived.Test.YthfnlnhehececaaDoorNSame
namespace Go.Proofs.YthfnlnhehececaaDoor
open Go Go.RowKit

theorem len_le {T X : List UInt8} (h : T.length + X.length ≤ 8000) : (T ++ X).length ≤ 8000 := by rw [List.length_append]; exact h
set_option maxRecDepth 100000 in
set_option maxHeartbeats 8000000 in
theorem wkids_list (k : Int) (hk7 : ¬ k = 7) (t : List UInt8) (ns : List (List UInt8)) (ks : List Js.J) (nv kv : Value) (vs : List Value) (B lo wb : Nat) (T : List UInt8) (w : World) (hC : ∀ j ∈ ks, ValW j) (hks : ∀ j ∈ ks, Js.Neat j) (hk8 : ks.length ≤ 140737488355328) (hn : NsAt w (· < B) nv ns) (hk : KsAt w (· < B) kv vs) (hl : vs.length = ks.length)
    (hs : ∀ (i : Nat) (j : Js.J) (v : Value), ks[i]? = some j → vs[i]? = some v → At w (· < B) j v) (hBw : B ≤ wb) (hB : B ≤ w.heap.size) (hw : Wr w lo wb T) (hT : T.length ≤ 8000) :
    Calls Tryd.prog 57 #[.pointer (some ⟨wb, 0, none⟩), jv k t nv kv] w (OutW lo wb T (Js.wrL false true ns ks) w) := by
  obtain ⟨N, hN⟩ : ∃ N, N = ks.length := ⟨_, rfl⟩
  obtain ⟨W, hW⟩ : ∃ W, W = Js.wrL false true ns ks := ⟨_, rfl⟩
  rw [← hW]
  obtain ⟨a1, c1, rfl, hcell⟩ := hn.sl
  obtain ⟨a2, c2, rfl, hcell2⟩ := hk.sl
  rw [hl, ← hN]
  have HN := Lib.hid hN
  have HW := Lib.hid hW
  have HNS := Lib.hid hcell
  have HK := Lib.hid hcell2
  have HS := Lib.hid hs
  have HKS := Lib.hid hks
  have HC := Lib.hid hC
  have HL := Lib.hid hl
  have hwl := hw.wl
  have hwlo := hw.lo_
  have HWR := Lib.hid hw
  have HLT := Lib.hid hT
  have C44 := Lib.hid (fun T u (hT : T.length ≤ 8000) (hu : Wr u lo wb T) => wadd_any lo wb T [44] hT (by simp) u hu)
  rw [← bs_eq] at C44
  have BXL := fun w => box_json k t (.slice a1 ns.length c1) (.slice a2 N c2) w
  unfold jv at ⊢
  unfold jv jrow at BXL
  generalize bs t = s at *
  rw [← hN] at hk8
  clear hn hk hs hks hC hl hcell hcell2 hw hT hN hW
  go_enter Tryd.func57, Tryd.ntmps57
  go_wp2_with (first | (refine wpList_box_any (w := w) rfl _ rfl _ _ rfl BXL ?_; intro w1 hg1 hb1 hs1; have hFr := Lib.hid (Fr.of_below (wb := wb) hb1.out hwlo); have hBB := Lib.hid (show w1.heap[w.heap.size]? = some (.cells ([.int .i64 k, .string s, .slice a1 ns.length c1, .slice a2 N c2] : List Value).toArray 25 (0, 0)) from hg1.out); have hWr := Lib.hid (HWR.out.below hb1.out); obtain ⟨d0, d1, d2, d3⟩ := box_cells hBB; clear hg1; go_frame))
  have hHi := Lib.hid (show T ++ W = T ++ Js.wrL false (decide (0 = 0)) (ns.drop 0) (ks.drop 0) by rw [HW.out]; rfl)
  have hs1' := hs1.out
  clear d0 d1 d2 d3
  go_loopw [9] (fun iv wr => ∃ (i : Nat) (Tc : List UInt8), i ≤ N ∧ iv = .int .i64 i ∧ Hid (T ++ W = Tc ++ Js.wrL false (decide (i = 0)) (ns.drop i) (ks.drop i)) ∧ Hid (Wr wr lo wb Tc) ∧ Hid (Tc.length ≤ 8000) ∧ Hid (Fr lo wb w wr) ∧ Hid (wr.heap[w.heap.size]? = some (.cells ([.int .i64 k, .string s, .slice a1 ns.length c1, .slice a2 N c2] : List Value).toArray 25 (0, 0)))) (fun iv _ => N - (intOf iv).toNat)
  case atStart => exact ⟨0, T, by omega, rfl, hHi, hWr, HLT, hFr, hBB⟩
  case round =>
    clear hWr hFr hBB hHi HW hb1 hs1
    obtain ⟨i, Tc, hi, rfl, hHi, hWr, hLn, hFr, hBB⟩ := hrel
    by_cases hiN : i < N
    · have hik : i < ks.length := by rw [← HN.out]; exact hiN
      have hiv : i < vs.length := by rw [HL.out]; exact hik
      have hj := List.getElem?_eq_getElem hik
      have hv := List.getElem?_eq_getElem hiv
      generalize ks[i] = j at hj
      generalize vs[i] = v at hv
      obtain ⟨g, o, rfl, hgB, hg, hli⟩ := HK.out i v hv
      have hat := HS.out i j v hj hv
      have hneat := HKS.out j (List.mem_of_getElem? hj)
      have hCj := HC.out j (List.mem_of_getElem? hj)
      have HX := Lib.hid (fun T u (hf : Fr lo wb w u) (hT : T.length ≤ 8000) (hu : Wr u lo wb T) => hCj v B lo wb T u hneat (hat.keep hf.kept (by omega) (by simp; omega)) hBw (Nat.le_trans hB hf.kept.size) hu hT)
      have hHi2 := hHi.out
      rw [wr_at hj] at hHi2
      simp only [Bool.false_eq_true, if_false, List.nil_append] at hHi2
      obtain ⟨kk, tt, nns, kks⟩ := j
      obtain ⟨nvv, kvv, _, rfl, h1, h2, _⟩ := hat.jv_
      have hrow := Lib.hid (lies_row (hli.frame (hFr.out.kept.block g (by omega) (by simp; omega))))
      rw [Nat.mul_comm 4 i] at hrow
      have hwr1 := hFr.out.kept.size
      generalize Js.wr (.mk kk tt nns kks) = Y at *
      generalize hRest : Js.wrL false false (ns.drop (i + 1)) (ks.drop (i + 1)) = Z at *
      have HZ := Lib.hid hRest
      clear hli hat hneat hCj hj hv HK HS HKS HC HNS hRest
      obtain ⟨d0, d1, d2, d3⟩ := box_cells hBB
      by_cases hi0 : i = 0
      · have hi1 : ¬ (0 : Int) < (i : Int) := by omega
        simp only [decide_eq_true hi0, if_true, List.nil_append] at hHi2
        have HT := Lib.hid hHi2
        have HTL := Lib.hid (congrArg List.length hHi2)
        clear hHi2 hHi hi0
        go_wp2_with (first | (refine wpList_load_mid rfl 25 _ rfl g (o + i * 4) rfl (jrow kk tt nvv kvv) _ hrow.out Tryd.underlying25 rfl (by kernel_rfl) ?_; go_frame) | (refine wpList_alloc_v (w := wr) rfl 25 rfl _ allocJson ?_; intro w3 hg3 hb3 hs3; go_frame) | (refine wpList_store_json rfl _ _ rfl wr.heap.size kk tt nvv kvv noRow rfl rfl h1 h2 rfl hg3.out ?_; intro w4 hKB hk4 hs4; have B2 := one_laid hb3 hs3 hk4; have hWr := Lib.hid (hWr.out.below B2.out); have hFr := Lib.hid (hFr.out.trans (Fr.of_below B2.out (Nat.le_trans hwlo hwr1))); have hBB := Lib.hid ((B2.out.block _ (lt_of_heap hBB.out)).trans hBB.out); obtain ⟨d0, d1, d2, d3⟩ := box_cells hBB; go_frame) | (refine wpList_load_mid rfl 25 _ rfl wr.heap.size 0 rfl (jrow kk tt nvv kvv) _ (range_of_list hKB.out) Tryd.underlying25 rfl (by kernel_rfl) ?_; go_frame) | (go_at_call 37; (refine (HX.out _ _ hFr.out hLn.out hWr.out).mono ?_); intro e1 u ho; have hF := ho.fr; have hFr := Lib.hid (hFr.out.trans hF); have hBB := box_keep hF hBB hwl hwlo; have hKB := box_keep hF hKB hwl (Nat.le_trans hwlo hwr1); obtain ⟨d0, d1, d2, d3⟩ := box_cells hBB; rcases ho.split with ⟨hf, rfl, hw⟩ | ⟨hf, rfl⟩; have hWr := Lib.hid hw; have hLn := Lib.hid (len_le hf); clear hw ho hF; go_frame; skip))
        case roundEnd =>
          exact ⟨⟨i + 1, _, by omega, by go_num, Lib.hid (by rw [decide_eq_false (by omega), HZ.out, HT.out]; simp [List.append_assoc]), hWr, hLn, hFr, hBB⟩, by simp [intOf]; omega⟩
        all_goals
          refine ⟨rfl, out_no ?_ hFr.out⟩
          have hl := HTL.out
          simp only [List.length_append] at hl hf ⊢
          omega
      · have hi1 : (0 : Int) < (i : Int) := by omega
        simp only [decide_eq_false hi0, Bool.false_eq_true, if_false] at hHi2
        have HT := Lib.hid hHi2
        have HTL := Lib.hid (congrArg List.length hHi2)
        clear hHi2 hHi hi0
        go_wp2_with (first | (refine wpList_load_mid rfl 25 _ rfl g (o + i * 4) rfl (jrow kk tt nvv kvv) _ hrow.out Tryd.underlying25 rfl (by kernel_rfl) ?_; go_frame) | (refine wpList_alloc_v (w := wr) rfl 25 rfl _ allocJson ?_; intro w3 hg3 hb3 hs3; go_frame) | (refine wpList_store_json rfl _ _ rfl wr.heap.size kk tt nvv kvv noRow rfl rfl h1 h2 rfl hg3.out ?_; intro w4 hKB hk4 hs4; have B2 := one_laid hb3 hs3 hk4; have hWr := Lib.hid (hWr.out.below B2.out); have hFr := Lib.hid (hFr.out.trans (Fr.of_below B2.out (Nat.le_trans hwlo hwr1))); have hBB := Lib.hid ((B2.out.block _ (lt_of_heap hBB.out)).trans hBB.out); obtain ⟨d0, d1, d2, d3⟩ := box_cells hBB; go_frame) | (refine wpList_load_mid rfl 25 _ rfl wr.heap.size 0 rfl (jrow kk tt nvv kvv) _ (range_of_list hKB.out) Tryd.underlying25 rfl (by kernel_rfl) ?_; go_frame) | (go_at_call 55; (with_reducible refine (C44.out _ _ hLn.out hWr.out).mono ?_); intro e1 u ho; have hF := ho.fr; have hFr := Lib.hid (hFr.out.trans hF); have hBB := box_keep hF hBB hwl hwlo; have hKB := box_keep hF hKB hwl (Nat.le_trans hwlo hwr1); obtain ⟨d0, d1, d2, d3⟩ := box_cells hBB; rcases ho.split with ⟨hf, rfl, hw⟩ | ⟨hf, rfl⟩; have hWr := Lib.hid hw; have hLn := Lib.hid (len_le hf); clear hw ho hF; go_frame; skip) | (go_at_call 37; (refine (HX.out _ _ hFr.out hLn.out hWr.out).mono ?_); intro e1 u ho; have hF := ho.fr; have hFr := Lib.hid (hFr.out.trans hF); have hBB := box_keep hF hBB hwl hwlo; have hKB := box_keep hF hKB hwl (Nat.le_trans hwlo hwr1); obtain ⟨d0, d1, d2, d3⟩ := box_cells hBB; rcases ho.split with ⟨hf, rfl, hw⟩ | ⟨hf, rfl⟩; have hWr := Lib.hid hw; have hLn := Lib.hid (len_le hf); clear hw ho hF; go_frame; skip))
        case roundEnd =>
          exact ⟨⟨i + 1, _, by omega, by go_num, Lib.hid (by rw [decide_eq_false (by omega), HZ.out, HT.out]; simp [List.append_assoc]), hWr, hLn, hFr, hBB⟩, by simp [intOf]; omega⟩
        all_goals
          refine ⟨rfl, out_no ?_ hFr.out⟩
          have hl := HTL.out
          simp only [List.length_append, List.length_cons, List.length_nil] at hl hf ⊢
          omega
    · obtain rfl : i = N := by omega
      have hHi2 := hHi.out
      rw [show ks.drop i = [] from List.drop_eq_nil_of_le (by rw [← HN.out]; exact Nat.le_refl _), Js.wrL_nil, List.append_nil] at hHi2
      have HT := Lib.hid hHi2
      have HTL := Lib.hid (congrArg List.length hHi2)
      clear hHi2 hHi HK HS HKS HC HNS
      go_wp2_with fail
      refine normal_end rfl rfl (out_yes (by have := HTL.out; have := hLn.out; rw [List.length_append] at *; omega) (by rw [HT.out]; exact hWr.out) hFr.out)
set_option maxRecDepth 100000 in
set_option maxHeartbeats 8000000 in
theorem wkids_obj (t : List UInt8) (ns : List (List UInt8)) (ks : List Js.J) (nv kv : Value) (vs : List Value) (B lo wb : Nat) (T : List UInt8) (w : World) (hC : ∀ j ∈ ks, ValW j) (hks : ∀ j ∈ ks, Js.Neat j) (hk8 : ks.length ≤ 140737488355328) (hn7 : ns.length = ks.length) (hns : ∀ x ∈ ns, x.length ≤ 140737488355328) (hn : NsAt w (· < B) nv ns) (hk : KsAt w (· < B) kv vs) (hl : vs.length = ks.length)
    (hs : ∀ (i : Nat) (j : Js.J) (v : Value), ks[i]? = some j → vs[i]? = some v → At w (· < B) j v) (hBw : B ≤ wb) (hB : B ≤ w.heap.size) (hw : Wr w lo wb T) (hT : T.length ≤ 8000) :
    Calls Tryd.prog 57 #[.pointer (some ⟨wb, 0, none⟩), jv 7 t nv kv] w (OutW lo wb T (Js.wrL true true ns ks) w) := by
  obtain ⟨N, hN⟩ : ∃ N, N = ks.length := ⟨_, rfl⟩
  obtain ⟨W, hW⟩ : ∃ W, W = Js.wrL true true ns ks := ⟨_, rfl⟩
  rw [← hW]
  obtain ⟨a1, c1, rfl, hcell⟩ := hn.sl
  obtain ⟨a2, c2, rfl, hcell2⟩ := hk.sl
  rw [hl, ← hN]
  have HN := Lib.hid hN
  have HW := Lib.hid hW
  have HNS := Lib.hid hcell
  have HK := Lib.hid hcell2
  have HS := Lib.hid hs
  have HKS := Lib.hid hks
  have HC := Lib.hid hC
  have HL := Lib.hid hl
  have hwl := hw.wl
  have hwlo := hw.lo_
  have HWR := Lib.hid hw
  have HLT := Lib.hid hT
  have C44 := Lib.hid (fun T u (hT : T.length ≤ 8000) (hu : Wr u lo wb T) => wadd_any lo wb T [44] hT (by simp) u hu)
  rw [← bs_eq] at C44
  have C58 := Lib.hid (fun T u (hT : T.length ≤ 8000) (hu : Wr u lo wb T) => wadd_any lo wb T [58] hT (by simp) u hu)
  rw [← bs_eq] at C58
  have CQ := Lib.hid (fun T X u (hT : T.length ≤ 8000) (hX : X.length ≤ 140737488355328) (hu : Wr u lo wb T) => wquoted_any lo wb T X hT hX u hu)
  have HN7 := Lib.hid hn7
  have HNX := Lib.hid hns
  have BXL := fun w => box_json 7 t (.slice a1 ns.length c1) (.slice a2 N c2) w
  unfold jv at ⊢
  unfold jv jrow at BXL
  generalize bs t = s at *
  rw [← hN] at hk8
  clear hn hk hs hks hC hl hcell hcell2 hw hT hN hW hn7 hns
  go_enter Tryd.func57, Tryd.ntmps57
  go_wp2_with (first | (refine wpList_box_any (w := w) rfl _ rfl _ _ rfl BXL ?_; intro w1 hg1 hb1 hs1; have hFr := Lib.hid (Fr.of_below (wb := wb) hb1.out hwlo); have hBB := Lib.hid (show w1.heap[w.heap.size]? = some (.cells ([.int .i64 7, .string s, .slice a1 ns.length c1, .slice a2 N c2] : List Value).toArray 25 (0, 0)) from hg1.out); have hWr := Lib.hid (HWR.out.below hb1.out); obtain ⟨d0, d1, d2, d3⟩ := box_cells hBB; clear hg1; go_frame))
  have hHi := Lib.hid (show T ++ W = T ++ Js.wrL true (decide (0 = 0)) (ns.drop 0) (ks.drop 0) by rw [HW.out]; rfl)
  have hs1' := hs1.out
  clear d0 d1 d2 d3
  go_loopw [9] (fun iv wr => ∃ (i : Nat) (Tc : List UInt8), i ≤ N ∧ iv = .int .i64 i ∧ Hid (T ++ W = Tc ++ Js.wrL true (decide (i = 0)) (ns.drop i) (ks.drop i)) ∧ Hid (Wr wr lo wb Tc) ∧ Hid (Tc.length ≤ 8000) ∧ Hid (Fr lo wb w wr) ∧ Hid (wr.heap[w.heap.size]? = some (.cells ([.int .i64 7, .string s, .slice a1 ns.length c1, .slice a2 N c2] : List Value).toArray 25 (0, 0)))) (fun iv _ => N - (intOf iv).toNat)
  case atStart => exact ⟨0, T, by omega, rfl, hHi, hWr, HLT, hFr, hBB⟩
  case round =>
    clear hWr hFr hBB hHi HW hb1 hs1
    obtain ⟨i, Tc, hi, rfl, hHi, hWr, hLn, hFr, hBB⟩ := hrel
    by_cases hiN : i < N
    · have hik : i < ks.length := by rw [← HN.out]; exact hiN
      have hiv : i < vs.length := by rw [HL.out]; exact hik
      have hj := List.getElem?_eq_getElem hik
      have hv := List.getElem?_eq_getElem hiv
      generalize ks[i] = j at hj
      generalize vs[i] = v at hv
      obtain ⟨g, o, rfl, hgB, hg, hli⟩ := HK.out i v hv
      have hat := HS.out i j v hj hv
      have hneat := HKS.out j (List.mem_of_getElem? hj)
      have hCj := HC.out j (List.mem_of_getElem? hj)
      have HX := Lib.hid (fun T u (hf : Fr lo wb w u) (hT : T.length ≤ 8000) (hu : Wr u lo wb T) => hCj v B lo wb T u hneat (hat.keep hf.kept (by omega) (by simp; omega)) hBw (Nat.le_trans hB hf.kept.size) hu hT)
      have hHi2 := hHi.out
      rw [wr_at hj] at hHi2
      obtain ⟨x, hx⟩ : ∃ x, ns[i]? = some x := ⟨ns[i]'(by rw [HN7.out]; exact hik), List.getElem?_eq_getElem _⟩
      obtain ⟨ga, oa, rfl, hgaB, hga, hcx⟩ := HNS.out i x hx
      have hxl := Lib.hid (HNX.out x (List.mem_of_getElem? hx))
      rw [List.getD, hx] at hHi2
      have hin : i < ns.length := by rw [HN7.out]; exact hik
      have HCX := Lib.hid (fun u (hf : Fr lo wb w u) => show u.cell? ⟨ga, oa + i, none⟩ = some (.string (bs x)) from (hf.kept.cell (p := ⟨ga, oa + i, none⟩) (by show ga < _; omega) (by simp; omega)).trans hcx)
      simp only [if_true, Option.getD_some] at hHi2
      obtain ⟨kk, tt, nns, kks⟩ := j
      obtain ⟨nvv, kvv, _, rfl, h1, h2, _⟩ := hat.jv_
      have hrow := Lib.hid (lies_row (hli.frame (hFr.out.kept.block g (by omega) (by simp; omega))))
      rw [Nat.mul_comm 4 i] at hrow
      have hwr1 := hFr.out.kept.size
      generalize Js.wr (.mk kk tt nns kks) = Y at *
      generalize hRest : Js.wrL true false (ns.drop (i + 1)) (ks.drop (i + 1)) = Z at *
      have HZ := Lib.hid hRest
      clear hli hat hneat hCj hj hv HK HS HKS HC HNS hRest hx hcx
      obtain ⟨d0, d1, d2, d3⟩ := box_cells hBB
      by_cases hi0 : i = 0
      · have hi1 : ¬ (0 : Int) < (i : Int) := by omega
        simp only [decide_eq_true hi0, if_true, List.nil_append] at hHi2
        have HT := Lib.hid hHi2
        have HTL := Lib.hid (congrArg List.length hHi2)
        clear hHi2 hHi hi0
        go_wp2_with (first | (refine wpList_load_mid rfl 25 _ rfl g (o + i * 4) rfl (jrow kk tt nvv kvv) _ hrow.out Tryd.underlying25 rfl (by kernel_rfl) ?_; go_frame) | (refine wpList_alloc_v (w := wr) rfl 25 rfl _ allocJson ?_; intro w3 hg3 hb3 hs3; go_frame) | (refine wpList_store_json rfl _ _ rfl wr.heap.size kk tt nvv kvv noRow rfl rfl h1 h2 rfl hg3.out ?_; intro w4 hKB hk4 hs4; have B2 := one_laid hb3 hs3 hk4; have hcx := HCX.out _ (hFr.out.trans (Fr.of_below B2.out (Nat.le_trans hwlo hwr1))); have hWr := Lib.hid (hWr.out.below B2.out); have hFr := Lib.hid (hFr.out.trans (Fr.of_below B2.out (Nat.le_trans hwlo hwr1))); have hBB := Lib.hid ((B2.out.block _ (lt_of_heap hBB.out)).trans hBB.out); obtain ⟨d0, d1, d2, d3⟩ := box_cells hBB; go_frame) | (refine wpList_load_mid rfl 25 _ rfl wr.heap.size 0 rfl (jrow kk tt nvv kvv) _ (range_of_list hKB.out) Tryd.underlying25 rfl (by kernel_rfl) ?_; go_frame) | (go_at_call 56; (refine (CQ.out _ x _ hLn.out hxl.out hWr.out).mono ?_); intro e1 u ho; have hF := ho.fr; have hFr := Lib.hid (hFr.out.trans hF); have hBB := box_keep hF hBB hwl hwlo; have hKB := box_keep hF hKB hwl (Nat.le_trans hwlo hwr1); obtain ⟨d0, d1, d2, d3⟩ := box_cells hBB; rcases ho.split with ⟨hf, rfl, hw⟩ | ⟨hf, rfl⟩; have hWr := Lib.hid hw; have hLn := Lib.hid (len_le hf); clear hw ho hF; go_frame; skip) | (go_at_call 55; (with_reducible refine (C58.out _ _ hLn.out hWr.out).mono ?_); intro e1 u ho; have hF := ho.fr; have hFr := Lib.hid (hFr.out.trans hF); have hBB := box_keep hF hBB hwl hwlo; have hKB := box_keep hF hKB hwl (Nat.le_trans hwlo hwr1); obtain ⟨d0, d1, d2, d3⟩ := box_cells hBB; rcases ho.split with ⟨hf, rfl, hw⟩ | ⟨hf, rfl⟩; have hWr := Lib.hid hw; have hLn := Lib.hid (len_le hf); clear hw ho hF; go_frame; skip) | (go_at_call 37; (refine (HX.out _ _ hFr.out hLn.out hWr.out).mono ?_); intro e1 u ho; have hF := ho.fr; have hFr := Lib.hid (hFr.out.trans hF); have hBB := box_keep hF hBB hwl hwlo; have hKB := box_keep hF hKB hwl (Nat.le_trans hwlo hwr1); obtain ⟨d0, d1, d2, d3⟩ := box_cells hBB; rcases ho.split with ⟨hf, rfl, hw⟩ | ⟨hf, rfl⟩; have hWr := Lib.hid hw; have hLn := Lib.hid (len_le hf); clear hw ho hF; go_frame; skip))
        case roundEnd =>
          exact ⟨⟨i + 1, _, by omega, by go_num, Lib.hid (by rw [decide_eq_false (by omega), HZ.out, HT.out]; simp [List.append_assoc]), hWr, hLn, hFr, hBB⟩, by simp [intOf]; omega⟩
        all_goals
          refine ⟨rfl, out_no ?_ hFr.out⟩
          have hl := HTL.out
          simp only [List.length_append, List.length_cons, List.length_nil] at hl hf ⊢
          omega
      · have hi1 : (0 : Int) < (i : Int) := by omega
        simp only [decide_eq_false hi0, Bool.false_eq_true, if_false] at hHi2
        have HT := Lib.hid hHi2
        have HTL := Lib.hid (congrArg List.length hHi2)
        clear hHi2 hHi hi0
        go_wp2_with (first | (refine wpList_load_mid rfl 25 _ rfl g (o + i * 4) rfl (jrow kk tt nvv kvv) _ hrow.out Tryd.underlying25 rfl (by kernel_rfl) ?_; go_frame) | (refine wpList_alloc_v (w := wr) rfl 25 rfl _ allocJson ?_; intro w3 hg3 hb3 hs3; go_frame) | (refine wpList_store_json rfl _ _ rfl wr.heap.size kk tt nvv kvv noRow rfl rfl h1 h2 rfl hg3.out ?_; intro w4 hKB hk4 hs4; have B2 := one_laid hb3 hs3 hk4; have hcx := HCX.out _ (hFr.out.trans (Fr.of_below B2.out (Nat.le_trans hwlo hwr1))); have hWr := Lib.hid (hWr.out.below B2.out); have hFr := Lib.hid (hFr.out.trans (Fr.of_below B2.out (Nat.le_trans hwlo hwr1))); have hBB := Lib.hid ((B2.out.block _ (lt_of_heap hBB.out)).trans hBB.out); obtain ⟨d0, d1, d2, d3⟩ := box_cells hBB; go_frame) | (refine wpList_load_mid rfl 25 _ rfl wr.heap.size 0 rfl (jrow kk tt nvv kvv) _ (range_of_list hKB.out) Tryd.underlying25 rfl (by kernel_rfl) ?_; go_frame) | (go_at_call 55; (with_reducible refine (C44.out _ _ hLn.out hWr.out).mono ?_); intro e1 u ho; have hF := ho.fr; have hFr := Lib.hid (hFr.out.trans hF); have hBB := box_keep hF hBB hwl hwlo; have hKB := box_keep hF hKB hwl (Nat.le_trans hwlo hwr1); obtain ⟨d0, d1, d2, d3⟩ := box_cells hBB; have hcx := HCX.out _ hFr.out; rcases ho.split with ⟨hf, rfl, hw⟩ | ⟨hf, rfl⟩; have hWr := Lib.hid hw; have hLn := Lib.hid (len_le hf); clear hw ho hF; go_frame; skip) | (go_at_call 56; (refine (CQ.out _ x _ hLn.out hxl.out hWr.out).mono ?_); intro e1 u ho; have hF := ho.fr; have hFr := Lib.hid (hFr.out.trans hF); have hBB := box_keep hF hBB hwl hwlo; have hKB := box_keep hF hKB hwl (Nat.le_trans hwlo hwr1); obtain ⟨d0, d1, d2, d3⟩ := box_cells hBB; rcases ho.split with ⟨hf, rfl, hw⟩ | ⟨hf, rfl⟩; have hWr := Lib.hid hw; have hLn := Lib.hid (len_le hf); clear hw ho hF; go_frame; skip) | (go_at_call 55; (with_reducible refine (C58.out _ _ hLn.out hWr.out).mono ?_); intro e1 u ho; have hF := ho.fr; have hFr := Lib.hid (hFr.out.trans hF); have hBB := box_keep hF hBB hwl hwlo; have hKB := box_keep hF hKB hwl (Nat.le_trans hwlo hwr1); obtain ⟨d0, d1, d2, d3⟩ := box_cells hBB; rcases ho.split with ⟨hf, rfl, hw⟩ | ⟨hf, rfl⟩; have hWr := Lib.hid hw; have hLn := Lib.hid (len_le hf); clear hw ho hF; go_frame; skip) | (go_at_call 37; (refine (HX.out _ _ hFr.out hLn.out hWr.out).mono ?_); intro e1 u ho; have hF := ho.fr; have hFr := Lib.hid (hFr.out.trans hF); have hBB := box_keep hF hBB hwl hwlo; have hKB := box_keep hF hKB hwl (Nat.le_trans hwlo hwr1); obtain ⟨d0, d1, d2, d3⟩ := box_cells hBB; rcases ho.split with ⟨hf, rfl, hw⟩ | ⟨hf, rfl⟩; have hWr := Lib.hid hw; have hLn := Lib.hid (len_le hf); clear hw ho hF; go_frame; skip))
        case roundEnd =>
          exact ⟨⟨i + 1, _, by omega, by go_num, Lib.hid (by rw [decide_eq_false (by omega), HZ.out, HT.out]; simp [List.append_assoc]), hWr, hLn, hFr, hBB⟩, by simp [intOf]; omega⟩
        all_goals
          refine ⟨rfl, out_no ?_ hFr.out⟩
          have hl := HTL.out
          simp only [List.length_append, List.length_cons, List.length_nil] at hl hf ⊢
          omega
    · obtain rfl : i = N := by omega
      have hHi2 := hHi.out
      rw [show ks.drop i = [] from List.drop_eq_nil_of_le (by rw [← HN.out]; exact Nat.le_refl _), Js.wrL_nil, List.append_nil] at hHi2
      have HT := Lib.hid hHi2
      have HTL := Lib.hid (congrArg List.length hHi2)
      clear hHi2 hHi HK HS HKS HC HNS
      go_wp2_with fail
      refine normal_end rfl rfl (out_yes (by have := HTL.out; have := hLn.out; rw [List.length_append] at *; omega) (by rw [HT.out]; exact hWr.out) hFr.out)
end Go.Proofs.YthfnlnhehececaaDoor

/- The program's writer: a value. -/
import Derived.Test.YthfnlnhehececaaDoorNKw2
namespace Go.Proofs.YthfnlnhehececaaDoor
open Go Go.RowKit

set_option maxRecDepth 100000 in
set_option maxHeartbeats 4000000 in
theorem wvalue0 (t : List UInt8) (nv kv : Value) (lo wb : Nat) (T : List UInt8) (w : World) (k : Int) (h1 : ¬ k = 1) (h2 : ¬ k = 2) (h3 : ¬ k = 3) (h4 : ¬ k = 4) (h5 : ¬ k = 5) (h6 : ¬ k = 6) (h7 : ¬ k = 7) (hw : Wr w lo wb T) (hT : T.length ≤ 8000) :
    Calls Tryd.prog 37 #[.pointer (some ⟨wb, 0, none⟩), jv k t nv kv] w (OutW lo wb T [] w) := by
  have hwl := hw.wl
  have hwlo := hw.lo_
  have HWR := Lib.hid hw
  have hLn := Lib.hid hT
  have BXL := fun w => box_json k t nv kv w
  unfold jv at ⊢
  unfold jv jrow at BXL
  generalize bs t = s at *
  clear hw hT
  go_enter Tryd.func37, Tryd.ntmps37
  go_wp2_with (first | (refine wpList_box_any (w := w) rfl _ rfl _ _ rfl BXL ?_; intro w1 hg1 hb1 hs1; have hFr := Lib.hid (Fr.of_below (wb := wb) hb1.out hwlo); have hBB := Lib.hid (show w1.heap[w.heap.size]? = some (.cells ([.int .i64 k, .string s, nv, kv] : List Value).toArray 25 (0, 0)) from hg1.out); have hWr := Lib.hid (HWR.out.below hb1.out); obtain ⟨d0, d1, d2, d3⟩ := box_cells hBB; clear hg1; go_frame))
  exact normal_end rfl rfl (out_yes (by have := hLn.out; simpa using this) (by rw [List.append_nil]; exact hWr.out) hFr.out)
set_option maxRecDepth 100000 in
set_option maxHeartbeats 4000000 in
theorem wvalue1 (t : List UInt8) (nv kv : Value) (lo wb : Nat) (T : List UInt8) (w : World) (hw : Wr w lo wb T) (hT : T.length ≤ 8000) :
    Calls Tryd.prog 37 #[.pointer (some ⟨wb, 0, none⟩), jv 1 t nv kv] w (OutW lo wb T [110, 117, 108, 108] w) := by
  have CW := Lib.hid (fun T u (hT : T.length ≤ 8000) (hu : Wr u lo wb T) => wadd_any lo wb T [110, 117, 108, 108] hT (by simp) u hu)
  rw [← bs_eq] at CW
  have hwl := hw.wl
  have hwlo := hw.lo_
  have HWR := Lib.hid hw
  have hLn := Lib.hid hT
  have BXL := fun w => box_json 1 t nv kv w
  unfold jv at ⊢
  unfold jv jrow at BXL
  generalize bs t = s at *
  clear hw hT
  go_enter Tryd.func37, Tryd.ntmps37
  go_wp2_with (first | (refine wpList_box_any (w := w) rfl _ rfl _ _ rfl BXL ?_; intro w1 hg1 hb1 hs1; have hFr := Lib.hid (Fr.of_below (wb := wb) hb1.out hwlo); have hBB := Lib.hid (show w1.heap[w.heap.size]? = some (.cells ([.int .i64 1, .string s, nv, kv] : List Value).toArray 25 (0, 0)) from hg1.out); have hWr := Lib.hid (HWR.out.below hb1.out); obtain ⟨d0, d1, d2, d3⟩ := box_cells hBB; clear hg1; go_frame) | (go_at_call 55; (with_reducible refine (CW.out _ _ hLn.out hWr.out).mono ?_); intro e1 u ho; have hF := ho.fr; have hFr := Lib.hid (hFr.out.trans hF); have hBB := box_keep hF hBB hwl hwlo; obtain ⟨d0, d1, d2, d3⟩ := box_cells hBB; rcases ho.split with ⟨hf, rfl, hw⟩ | ⟨hf, rfl⟩; have hWr := Lib.hid hw; have hLn := Lib.hid (len_le hf); clear hw ho hF; go_frame; skip))
  all_goals first
    | exact normal_end rfl rfl (out_yes hf hWr.out hFr.out)
    | exact ⟨rfl, out_no hf hFr.out⟩
set_option maxRecDepth 100000 in
set_option maxHeartbeats 4000000 in
theorem wvalue2 (t : List UInt8) (nv kv : Value) (lo wb : Nat) (T : List UInt8) (w : World) (hw : Wr w lo wb T) (hT : T.length ≤ 8000) :
    Calls Tryd.prog 37 #[.pointer (some ⟨wb, 0, none⟩), jv 2 t nv kv] w (OutW lo wb T [102, 97, 108, 115, 101] w) := by
  have CW := Lib.hid (fun T u (hT : T.length ≤ 8000) (hu : Wr u lo wb T) => wadd_any lo wb T [102, 97, 108, 115, 101] hT (by simp) u hu)
  rw [← bs_eq] at CW
  have hwl := hw.wl
  have hwlo := hw.lo_
  have HWR := Lib.hid hw
  have hLn := Lib.hid hT
  have BXL := fun w => box_json 2 t nv kv w
  unfold jv at ⊢
  unfold jv jrow at BXL
  generalize bs t = s at *
  clear hw hT
  go_enter Tryd.func37, Tryd.ntmps37
  go_wp2_with (first | (refine wpList_box_any (w := w) rfl _ rfl _ _ rfl BXL ?_; intro w1 hg1 hb1 hs1; have hFr := Lib.hid (Fr.of_below (wb := wb) hb1.out hwlo); have hBB := Lib.hid (show w1.heap[w.heap.size]? = some (.cells ([.int .i64 2, .string s, nv, kv] : List Value).toArray 25 (0, 0)) from hg1.out); have hWr := Lib.hid (HWR.out.below hb1.out); obtain ⟨d0, d1, d2, d3⟩ := box_cells hBB; clear hg1; go_frame) | (go_at_call 55; (with_reducible refine (CW.out _ _ hLn.out hWr.out).mono ?_); intro e1 u ho; have hF := ho.fr; have hFr := Lib.hid (hFr.out.trans hF); have hBB := box_keep hF hBB hwl hwlo; obtain ⟨d0, d1, d2, d3⟩ := box_cells hBB; rcases ho.split with ⟨hf, rfl, hw⟩ | ⟨hf, rfl⟩; have hWr := Lib.hid hw; have hLn := Lib.hid (len_le hf); clear hw ho hF; go_frame; skip))
  all_goals first
    | exact normal_end rfl rfl (out_yes hf hWr.out hFr.out)
    | exact ⟨rfl, out_no hf hFr.out⟩
set_option maxRecDepth 100000 in
set_option maxHeartbeats 4000000 in
theorem wvalue3 (t : List UInt8) (nv kv : Value) (lo wb : Nat) (T : List UInt8) (w : World) (hw : Wr w lo wb T) (hT : T.length ≤ 8000) :
    Calls Tryd.prog 37 #[.pointer (some ⟨wb, 0, none⟩), jv 3 t nv kv] w (OutW lo wb T [116, 114, 117, 101] w) := by
  have CW := Lib.hid (fun T u (hT : T.length ≤ 8000) (hu : Wr u lo wb T) => wadd_any lo wb T [116, 114, 117, 101] hT (by simp) u hu)
  rw [← bs_eq] at CW
  have hwl := hw.wl
  have hwlo := hw.lo_
  have HWR := Lib.hid hw
  have hLn := Lib.hid hT
  have BXL := fun w => box_json 3 t nv kv w
  unfold jv at ⊢
  unfold jv jrow at BXL
  generalize bs t = s at *
  clear hw hT
  go_enter Tryd.func37, Tryd.ntmps37
  go_wp2_with (first | (refine wpList_box_any (w := w) rfl _ rfl _ _ rfl BXL ?_; intro w1 hg1 hb1 hs1; have hFr := Lib.hid (Fr.of_below (wb := wb) hb1.out hwlo); have hBB := Lib.hid (show w1.heap[w.heap.size]? = some (.cells ([.int .i64 3, .string s, nv, kv] : List Value).toArray 25 (0, 0)) from hg1.out); have hWr := Lib.hid (HWR.out.below hb1.out); obtain ⟨d0, d1, d2, d3⟩ := box_cells hBB; clear hg1; go_frame) | (go_at_call 55; (with_reducible refine (CW.out _ _ hLn.out hWr.out).mono ?_); intro e1 u ho; have hF := ho.fr; have hFr := Lib.hid (hFr.out.trans hF); have hBB := box_keep hF hBB hwl hwlo; obtain ⟨d0, d1, d2, d3⟩ := box_cells hBB; rcases ho.split with ⟨hf, rfl, hw⟩ | ⟨hf, rfl⟩; have hWr := Lib.hid hw; have hLn := Lib.hid (len_le hf); clear hw ho hF; go_frame; skip))
  all_goals first
    | exact normal_end rfl rfl (out_yes hf hWr.out hFr.out)
    | exact ⟨rfl, out_no hf hFr.out⟩
set_option maxRecDepth 100000 in
set_option maxHeartbeats 4000000 in
theorem wvalue4 (t : List UInt8) (nv kv : Value) (lo wb : Nat) (T : List UInt8) (w : World) (ht : t.length ≤ 140737488355328) (hw : Wr w lo wb T) (hT : T.length ≤ 8000) :
    Calls Tryd.prog 37 #[.pointer (some ⟨wb, 0, none⟩), jv 4 t nv kv] w (OutW lo wb T t w) := by
  have CW := Lib.hid (fun T u (hT : T.length ≤ 8000) (hu : Wr u lo wb T) => wadd_any lo wb T t hT ht u hu)
  have hwl := hw.wl
  have hwlo := hw.lo_
  have HWR := Lib.hid hw
  have hLn := Lib.hid hT
  have BXL := fun w => box_json 4 t nv kv w
  unfold jv at ⊢
  unfold jv jrow at BXL
  generalize bs t = s at *
  clear hw hT ht
  go_enter Tryd.func37, Tryd.ntmps37
  go_wp2_with (first | (refine wpList_box_any (w := w) rfl _ rfl _ _ rfl BXL ?_; intro w1 hg1 hb1 hs1; have hFr := Lib.hid (Fr.of_below (wb := wb) hb1.out hwlo); have hBB := Lib.hid (show w1.heap[w.heap.size]? = some (.cells ([.int .i64 4, .string s, nv, kv] : List Value).toArray 25 (0, 0)) from hg1.out); have hWr := Lib.hid (HWR.out.below hb1.out); obtain ⟨d0, d1, d2, d3⟩ := box_cells hBB; clear hg1; go_frame) | (go_at_call 55; (refine (CW.out _ _ hLn.out hWr.out).mono ?_); intro e1 u ho; have hF := ho.fr; have hFr := Lib.hid (hFr.out.trans hF); have hBB := box_keep hF hBB hwl hwlo; obtain ⟨d0, d1, d2, d3⟩ := box_cells hBB; rcases ho.split with ⟨hf, rfl, hw⟩ | ⟨hf, rfl⟩; have hWr := Lib.hid hw; have hLn := Lib.hid (len_le hf); clear hw ho hF; go_frame; skip))
  all_goals first
    | exact normal_end rfl rfl (out_yes hf hWr.out hFr.out)
    | exact ⟨rfl, out_no hf hFr.out⟩
set_option maxRecDepth 100000 in
set_option maxHeartbeats 4000000 in
theorem wvalue5 (t : List UInt8) (nv kv : Value) (lo wb : Nat) (T : List UInt8) (w : World) (ht : t.length ≤ 140737488355328) (hw : Wr w lo wb T) (hT : T.length ≤ 8000) :
    Calls Tryd.prog 37 #[.pointer (some ⟨wb, 0, none⟩), jv 5 t nv kv] w (OutW lo wb T (Js.wq t) w) := by
  have CW := Lib.hid (fun T u (hT : T.length ≤ 8000) (hu : Wr u lo wb T) => wquoted_any lo wb T t hT ht u hu)
  have hwl := hw.wl
  have hwlo := hw.lo_
  have HWR := Lib.hid hw
  have hLn := Lib.hid hT
  have BXL := fun w => box_json 5 t nv kv w
  unfold jv at ⊢
  unfold jv jrow at BXL
  generalize bs t = s at *
  clear hw hT ht
  go_enter Tryd.func37, Tryd.ntmps37
  go_wp2_with (first | (refine wpList_box_any (w := w) rfl _ rfl _ _ rfl BXL ?_; intro w1 hg1 hb1 hs1; have hFr := Lib.hid (Fr.of_below (wb := wb) hb1.out hwlo); have hBB := Lib.hid (show w1.heap[w.heap.size]? = some (.cells ([.int .i64 5, .string s, nv, kv] : List Value).toArray 25 (0, 0)) from hg1.out); have hWr := Lib.hid (HWR.out.below hb1.out); obtain ⟨d0, d1, d2, d3⟩ := box_cells hBB; clear hg1; go_frame) | (go_at_call 56; (refine (CW.out _ _ hLn.out hWr.out).mono ?_); intro e1 u ho; have hF := ho.fr; have hFr := Lib.hid (hFr.out.trans hF); have hBB := box_keep hF hBB hwl hwlo; obtain ⟨d0, d1, d2, d3⟩ := box_cells hBB; rcases ho.split with ⟨hf, rfl, hw⟩ | ⟨hf, rfl⟩; have hWr := Lib.hid hw; have hLn := Lib.hid (len_le hf); clear hw ho hF; go_frame; skip))
  all_goals first
    | exact normal_end rfl rfl (out_yes hf hWr.out hFr.out)
    | exact ⟨rfl, out_no hf hFr.out⟩
set_option maxRecDepth 100000 in
set_option maxHeartbeats 4000000 in
theorem wvalue6 (t : List UInt8) (nv kv : Value) (lo wb : Nat) (T : List UInt8) (w : World) (Y : List UInt8) (hc : ∀ T u, Fr lo wb w u → T.length ≤ 8000 → Wr u lo wb T → Calls Tryd.prog 57 #[.pointer (some ⟨wb, 0, none⟩), jv 6 t nv kv] u (OutW lo wb T Y u)) (hw : Wr w lo wb T) (hT : T.length ≤ 8000) :
    Calls Tryd.prog 37 #[.pointer (some ⟨wb, 0, none⟩), jv 6 t nv kv] w (OutW lo wb T (91 :: (Y ++ [93])) w) := by
  have C1 := Lib.hid (fun T u (hT : T.length ≤ 8000) (hu : Wr u lo wb T) => wadd_any lo wb T [91] hT (by simp) u hu)
  rw [← bs_eq] at C1
  have C2 := Lib.hid (fun T u (hT : T.length ≤ 8000) (hu : Wr u lo wb T) => wadd_any lo wb T [93] hT (by simp) u hu)
  rw [← bs_eq] at C2
  unfold jv at hc
  have CK := Lib.hid hc
  clear hc
  have hwl := hw.wl
  have hwlo := hw.lo_
  have HWR := Lib.hid hw
  have hLn := Lib.hid hT
  have BXL := fun w => box_json 6 t nv kv w
  unfold jv at ⊢
  unfold jv jrow at BXL
  generalize bs t = s at *
  clear hw hT
  go_enter Tryd.func37, Tryd.ntmps37
  go_wp2_with (first | (refine wpList_box_any (w := w) rfl _ rfl _ _ rfl BXL ?_; intro w1 hg1 hb1 hs1; have hFr := Lib.hid (Fr.of_below (wb := wb) hb1.out hwlo); have hBB := Lib.hid (show w1.heap[w.heap.size]? = some (.cells ([.int .i64 6, .string s, nv, kv] : List Value).toArray 25 (0, 0)) from hg1.out); have hWr := Lib.hid (HWR.out.below hb1.out); obtain ⟨d0, d1, d2, d3⟩ := box_cells hBB; clear hg1; go_frame) | (go_at_call 55; (with_reducible refine (C1.out _ _ hLn.out hWr.out).mono ?_); intro e1 u ho; have hF := ho.fr; have hFr := Lib.hid (hFr.out.trans hF); have hBB := box_keep hF hBB hwl hwlo; obtain ⟨d0, d1, d2, d3⟩ := box_cells hBB; rcases ho.split with ⟨hf, rfl, hw⟩ | ⟨hf, rfl⟩; have hWr := Lib.hid hw; have hLn := Lib.hid (len_le hf); clear hw ho hF; go_frame; skip) | (go_at_call 57; (refine (CK.out _ _ hFr.out hLn.out hWr.out).mono ?_); intro e1 u ho; have hF := ho.fr; have hFr := Lib.hid (hFr.out.trans hF); have hBB := box_keep hF hBB hwl hwlo; obtain ⟨d0, d1, d2, d3⟩ := box_cells hBB; rcases ho.split with ⟨hf, rfl, hw⟩ | ⟨hf, rfl⟩; have hWr := Lib.hid hw; have hLn := Lib.hid (len_le hf); clear hw ho hF; go_frame; skip) | (go_at_call 55; (with_reducible refine (C2.out _ _ hLn.out hWr.out).mono ?_); intro e1 u ho; have hF := ho.fr; have hFr := Lib.hid (hFr.out.trans hF); have hBB := box_keep hF hBB hwl hwlo; obtain ⟨d0, d1, d2, d3⟩ := box_cells hBB; rcases ho.split with ⟨hf, rfl, hw⟩ | ⟨hf, rfl⟩; have hWr := Lib.hid hw; have hLn := Lib.hid (len_le hf); clear hw ho hF; go_frame; skip))
  all_goals first
    | exact normal_end rfl rfl (out_yes (by simp only [List.length_append, List.length_cons, List.length_nil] at hf ⊢; omega) (by have h := hWr.out; simpa using h) hFr.out)
    | exact ⟨rfl, out_no (by simp only [List.length_append, List.length_cons, List.length_nil] at hf ⊢; omega) hFr.out⟩
set_option maxRecDepth 100000 in
set_option maxHeartbeats 4000000 in
theorem wvalue7 (t : List UInt8) (nv kv : Value) (lo wb : Nat) (T : List UInt8) (w : World) (Y : List UInt8) (hc : ∀ T u, Fr lo wb w u → T.length ≤ 8000 → Wr u lo wb T → Calls Tryd.prog 57 #[.pointer (some ⟨wb, 0, none⟩), jv 7 t nv kv] u (OutW lo wb T Y u)) (hw : Wr w lo wb T) (hT : T.length ≤ 8000) :
    Calls Tryd.prog 37 #[.pointer (some ⟨wb, 0, none⟩), jv 7 t nv kv] w (OutW lo wb T (123 :: (Y ++ [125])) w) := by
  have C1 := Lib.hid (fun T u (hT : T.length ≤ 8000) (hu : Wr u lo wb T) => wadd_any lo wb T [123] hT (by simp) u hu)
  rw [← bs_eq] at C1
  have C2 := Lib.hid (fun T u (hT : T.length ≤ 8000) (hu : Wr u lo wb T) => wadd_any lo wb T [125] hT (by simp) u hu)
  rw [← bs_eq] at C2
  unfold jv at hc
  have CK := Lib.hid hc
  clear hc
  have hwl := hw.wl
  have hwlo := hw.lo_
  have HWR := Lib.hid hw
  have hLn := Lib.hid hT
  have BXL := fun w => box_json 7 t nv kv w
  unfold jv at ⊢
  unfold jv jrow at BXL
  generalize bs t = s at *
  clear hw hT
  go_enter Tryd.func37, Tryd.ntmps37
  go_wp2_with (first | (refine wpList_box_any (w := w) rfl _ rfl _ _ rfl BXL ?_; intro w1 hg1 hb1 hs1; have hFr := Lib.hid (Fr.of_below (wb := wb) hb1.out hwlo); have hBB := Lib.hid (show w1.heap[w.heap.size]? = some (.cells ([.int .i64 7, .string s, nv, kv] : List Value).toArray 25 (0, 0)) from hg1.out); have hWr := Lib.hid (HWR.out.below hb1.out); obtain ⟨d0, d1, d2, d3⟩ := box_cells hBB; clear hg1; go_frame) | (go_at_call 55; (with_reducible refine (C1.out _ _ hLn.out hWr.out).mono ?_); intro e1 u ho; have hF := ho.fr; have hFr := Lib.hid (hFr.out.trans hF); have hBB := box_keep hF hBB hwl hwlo; obtain ⟨d0, d1, d2, d3⟩ := box_cells hBB; rcases ho.split with ⟨hf, rfl, hw⟩ | ⟨hf, rfl⟩; have hWr := Lib.hid hw; have hLn := Lib.hid (len_le hf); clear hw ho hF; go_frame; skip) | (go_at_call 57; (refine (CK.out _ _ hFr.out hLn.out hWr.out).mono ?_); intro e1 u ho; have hF := ho.fr; have hFr := Lib.hid (hFr.out.trans hF); have hBB := box_keep hF hBB hwl hwlo; obtain ⟨d0, d1, d2, d3⟩ := box_cells hBB; rcases ho.split with ⟨hf, rfl, hw⟩ | ⟨hf, rfl⟩; have hWr := Lib.hid hw; have hLn := Lib.hid (len_le hf); clear hw ho hF; go_frame; skip) | (go_at_call 55; (with_reducible refine (C2.out _ _ hLn.out hWr.out).mono ?_); intro e1 u ho; have hF := ho.fr; have hFr := Lib.hid (hFr.out.trans hF); have hBB := box_keep hF hBB hwl hwlo; obtain ⟨d0, d1, d2, d3⟩ := box_cells hBB; rcases ho.split with ⟨hf, rfl, hw⟩ | ⟨hf, rfl⟩; have hWr := Lib.hid hw; have hLn := Lib.hid (len_le hf); clear hw ho hF; go_frame; skip))
  all_goals first
    | exact normal_end rfl rfl (out_yes (by simp only [List.length_append, List.length_cons, List.length_nil] at hf ⊢; omega) (by have h := hWr.out; simpa using h) hFr.out)
    | exact ⟨rfl, out_no (by simp only [List.length_append, List.length_cons, List.length_nil] at hf ⊢; omega) hFr.out⟩
theorem wrL_names : ∀ (ns ns2 : List (List UInt8)) (ks : List Js.J) (b : Bool), Js.wrL false b ns ks = Js.wrL false b ns2 ks
  | ns, ns2, [], b => by rw [Js.wrL_nil, Js.wrL_nil]
  | ns, ns2, j :: r, b => by
    rw [Js.wrL_cons, Js.wrL_cons, wrL_names ns.tail ns2.tail r false]
    rfl
theorem wvalue_at : ∀ j, ValW j := by
  intro j
  induction j using Js.J.ind with
  | h k t ns ks ih =>
    intro v B lo wb T w hf hat hBw hB hw hT
    obtain ⟨nv, kv, vs, rfl, _, _, hn, hk, hl, hs⟩ := hat.jv_
    cases hf with
    | mk _ _ _ _ a1 a2 a3 a4 a5 a6 =>
    rw [Js.wr]
    by_cases k1 : k = 1
    · subst k1; rw [if_pos rfl]; exact wvalue1 t nv kv lo wb T w hw hT
    rw [if_neg k1]
    by_cases k2 : k = 2
    · subst k2; rw [if_pos rfl]; exact wvalue2 t nv kv lo wb T w hw hT
    rw [if_neg k2]
    by_cases k3 : k = 3
    · subst k3; rw [if_pos rfl]; exact wvalue3 t nv kv lo wb T w hw hT
    rw [if_neg k3]
    by_cases k4 : k = 4
    · subst k4; rw [if_pos rfl]; exact wvalue4 t nv kv lo wb T w a1 hw hT
    rw [if_neg k4]
    by_cases k5 : k = 5
    · subst k5; rw [if_pos rfl]; exact wvalue5 t nv kv lo wb T w a1 hw hT
    rw [if_neg k5]
    have hwl := hw.wl
    have keepN : ∀ u, Fr lo wb w u → NsAt u (· < B) nv ns := fun u hu => hn.frame (fun _ h => h) hu.kept.size fun g hg _ => hu.kept.block g (by omega) (by simp; omega)
    have keepK : ∀ u, Fr lo wb w u → KsAt u (· < B) kv vs := fun u hu => hk.frame (fun _ h => h) hu.kept.size fun g hg _ => hu.kept.block g (by omega) (by simp; omega)
    by_cases k6 : k = 6
    · subst k6
      rw [if_pos rfl]
      refine wvalue6 t nv kv lo wb T w _ (fun T' u hu hT' hw' => ?_) hw hT
      have h := wkids_list 6 (by decide) t ns ks nv kv vs B lo wb T' u ih a6 a4 (keepN u hu) (keepK u hu) hl (fun i j v a b => (hs i j v a b).keep hu.kept (by omega) (by simp; omega)) hBw (Nat.le_trans hB hu.kept.size) hw' hT'
      rwa [wrL_names ns [] ks true] at h
    rw [if_neg k6]
    by_cases k7 : k = 7
    · subst k7
      rw [if_pos rfl]
      refine wvalue7 t nv kv lo wb T w _ (fun T' u hu hT' hw' => ?_) hw hT
      exact wkids_obj t ns ks nv kv vs B lo wb T' u ih a6 a4 (a5 rfl) a3 (keepN u hu) (keepK u hu) hl (fun i j v a b => (hs i j v a b).keep hu.kept (by omega) (by simp; omega)) hBw (Nat.le_trans hB hu.kept.size) hw' hT'
    rw [if_neg k7]
    exact wvalue0 t nv kv lo wb T w k k1 k2 k3 k4 k5 k6 k7 hw hT
end Go.Proofs.YthfnlnhehececaaDoor

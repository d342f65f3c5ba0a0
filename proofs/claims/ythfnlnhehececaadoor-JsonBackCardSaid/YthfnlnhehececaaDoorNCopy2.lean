/- A right value is copied. -/
import Derived.Test.YthfnlnhehececaaDoorNCopy1
import Derived.Test.YthfnlnhehececaaDoorNSame
import Derived.Test.YthfnlnhehececaaDoorNSame2
namespace Go.Proofs.YthfnlnhehececaaDoor
open Go Go.RowKit

theorem tmps45 (t : Array Value) (h : t.size = 45) : ∃ x0 x1 x2 x3 x4 x5 x6 x7 x8 x9 x10 x11 x12 x13 x14 x15 x16 x17 x18 x19 x20 x21 x22 x23 x24 x25 x26 x27 x28 x29 x30 x31 x32 x33 x34 x35 x36 x37 x38 x39 x40 x41 x42 x43 x44, t = #[x0, x1, x2, x3, x4, x5, x6, x7, x8, x9, x10, x11, x12, x13, x14, x15, x16, x17, x18, x19, x20, x21, x22, x23, x24, x25, x26, x27, x28, x29, x30, x31, x32, x33, x34, x35, x36, x37, x38, x39, x40, x41, x42, x43, x44] := by
  obtain ⟨l⟩ := t
  match l, h with
  | x0 :: x1 :: x2 :: x3 :: x4 :: x5 :: x6 :: x7 :: x8 :: x9 :: x10 :: x11 :: x12 :: x13 :: x14 :: x15 :: x16 :: x17 :: x18 :: x19 :: x20 :: x21 :: x22 :: x23 :: x24 :: x25 :: x26 :: x27 :: x28 :: x29 :: x30 :: x31 :: x32 :: x33 :: x34 :: x35 :: x36 :: x37 :: x38 :: x39 :: x40 :: x41 :: x42 :: x43 :: x44 :: [], _ => exact ⟨x0, x1, x2, x3, x4, x5, x6, x7, x8, x9, x10, x11, x12, x13, x14, x15, x16, x17, x18, x19, x20, x21, x22, x23, x24, x25, x26, x27, x28, x29, x30, x31, x32, x33, x34, x35, x36, x37, x38, x39, x40, x41, x42, x43, x44, rfl⟩
/-- Nothing of it is too long, and its lists have no more than 8000. -/
inductive Js.Slim : Js.J → Prop
  | mk (k : Int) (t : List UInt8) (ns : List (List UInt8)) (ks : List Js.J) (ht : t.length ≤ 140737488355328) (hn : ns.length ≤ 8000) (hns : ∀ x ∈ ns, x.length ≤ 140737488355328) (hk : ks.length ≤ 8000) (hks : ∀ j ∈ ks, Js.Slim j) : Js.Slim (.mk k t ns ks)
/-- What is asked of the copying of a value. -/
def CopyC (j : Js.J) : Prop := ∀ (v : Value) (B : Nat) (w : World), Js.Slim j → At w (· < B) j v → B ≤ w.heap.size →
  Calls Tryd.prog 29 #[v] w fun e w' => ∃ z, e = .returned z ∧ Made w j z w' ∧ Below w.heap.size w w'
/-- What lies behind a copy's beginning. -/
theorem copy_laid {w w1 w2 w3 : World} {jb : Nat} {k : Int} {t : List UInt8} {nv kv : Value} (hb1 : Hid (Below w.heap.size w w1)) (hs1 : Hid (w1.heap.size = w.heap.size + 1)) (hg2 : Hid (w2.heap[w1.heap.size]? = some (.cells noRow.toArray 25 (0, 0)))) (hb2 : Hid (Below w1.heap.size w1 w2)) (hs2 : Hid (w2.heap.size = w1.heap.size + 1))
    (hbb : Hid (w2.heap[w.heap.size]? = some (.cells (jrow k t nv kv).toArray 25 (0, 0)))) (hj3 : w3.heap[jb]? = some (.cells (jrow k t (.slice none 0 0) (.slice none 0 0)).toArray 25 (0, 0))) (hjb : w2.heap.size ≤ jb) (hb3 : Below w2.heap.size w2 w3) :
    Hid (Sc jb w3.heap.size k t (.slice none 0 0) (.slice none 0 0) [] [] w3) ∧ Hid (w3.heap[w.heap.size]? = some (.cells (jrow k t nv kv).toArray 25 (0, 0))) ∧ Hid (w3.heap[w1.heap.size]? = some (.cells noRow.toArray 25 (0, 0))) ∧ Hid (Below w.heap.size w w3) ∧ Hid (w1.heap.size = w.heap.size + 1 ∧ w1.heap.size < jb ∧ jb < w3.heap.size) := by
  have e1 := hs1.out
  have e2 := hs2.out
  have hj := lt_of_heap hj3
  exact ⟨Lib.hid ⟨hj3, ⟨[], _, Acc.none _⟩, Nat.le_refl _, hj⟩, Lib.hid ((hb3.block _ (by omega)).trans hbb.out), Lib.hid ((hb3.block _ (by omega)).trans hg2.out), Lib.hid ((hb1.out.trans (hb2.out.mono (by omega))).trans (hb3.mono (by omega))), Lib.hid (by omega)⟩
theorem Sc.made {jb lo : Nat} {k : Int} {t : List UInt8} {nv kv : Value} {ns : List (List UInt8)} {ks : List Js.J} {w : World} (h : Sc jb lo k t nv kv ns ks w) : Own w lo w.heap.size (.mk k t ns ks) (jv k t nv kv) ∧ nv.oneCell' = true ∧ kv.oneCell' = true := by
  obtain ⟨h1, ⟨vs, iv, acc⟩, _⟩ := h
  have o := acc.own k t
  obtain ⟨k', t', nv', kv', e, h3, h4⟩ := o.four
  unfold jv at e
  simp only [Value.agg.injEq, Array.mk.injEq, List.cons.injEq, and_true] at e
  obtain ⟨_, _, rfl, rfl⟩ := e
  exact ⟨o, h3, h4⟩
theorem Sc.below_ {jb lo : Nat} {k : Int} {t : List UInt8} {nv kv : Value} {ns : List (List UInt8)} {ks : List Js.J} {w w' : World} (h : Sc jb lo k t nv kv ns ks w) (hb : Below w.heap.size w w') : Sc jb lo k t nv kv ns ks w' := by
  obtain ⟨h1, ⟨vs, iv, acc⟩, h2, h3⟩ := h
  have hs := hb.size
  exact ⟨(hb.block _ (lt_of_heap h1)).trans h1, ⟨vs, iv, (acc.frame (fun g _ hg => hb.block g hg)).up hs⟩, by omega, h3⟩
theorem copy_cells {w w3 wr : World} {jb : Nat} {k : Int} {t : List UInt8} {nv kv : Value} (hk : Kept w3.heap.size [jb] w3 wr) (hb : Hid (w3.heap[w.heap.size]? = some (.cells (jrow k t nv kv).toArray 25 (0, 0)))) (hj : w.heap.size < jb) : wr.cell? ⟨w.heap.size, 2, none⟩ = some nv ∧ wr.cell? ⟨w.heap.size, 3, none⟩ = some kv := by
  have h := hk.heap hb.out (lt_of_heap hb.out) (by simp; omega)
  exact ⟨by rw [cell_of_list h]; rfl, by rw [cell_of_list h]; rfl⟩
set_option maxRecDepth 100000 in
set_option maxHeartbeats 8000000 in
theorem copy_one (k : Int) (t : List UInt8) (ns : List (List UInt8)) (ks : List Js.J) (nv kv : Value) (vs : List Value) (B : Nat) (w : World) (hC : ∀ j ∈ ks, CopyC j) (ht : t.length ≤ 140737488355328) (hn8 : ns.length ≤ 8000) (hns : ∀ x ∈ ns, x.length ≤ 140737488355328) (hk8 : ks.length ≤ 8000) (hks : ∀ j ∈ ks, Js.Slim j)
    (hn : NsAt w (· < B) nv ns) (hk : KsAt w (· < B) kv vs) (hl : vs.length = ks.length) (hs : ∀ (i : Nat) (j : Js.J) (v : Value), ks[i]? = some j → vs[i]? = some v → At w (· < B) j v) (hB : B ≤ w.heap.size) :
    Calls Tryd.prog 29 #[jv k t nv kv] w fun e w' => ∃ z, e = .returned z ∧ Made w (.mk k t ns ks) z w' ∧ Below w.heap.size w w' := by
  obtain ⟨a1, c1, rfl, hcell⟩ := hn.sl
  obtain ⟨a2, c2, rfl, hcell2⟩ := hk.sl
  have BX := fun w => box_json k t (.slice a1 ns.length c1) (.slice a2 vs.length c2) w
  have HN := Lib.hid hcell
  have HK := Lib.hid hcell2
  have HS := Lib.hid hs
  have HNS := Lib.hid hns
  have HKS := Lib.hid hks
  have HC := Lib.hid hC
  have HL := Lib.hid hl
  clear hn hk hs hns hks hC hl hcell hcell2
  go_enter Tryd.func29, Tryd.ntmps29
  go_wp2_with (first | (refine wpList_box_any (w := w) rfl _ rfl _ _ rfl BX ?_; intro w1 hg1 hb1 hs1; go_frame) | (refine wpList_alloc_v (w := w1) rfl 25 rfl _ allocJson ?_; intro w2 hg2 hb2 hs2; have hbb := Lib.hid ((hb2.out.block _ (lt_of_heap hg1.out)).trans hg1.out); go_frame) | (refine copy_begin w.heap.size k t _ _ ht _ 1 _ w2 rfl rfl rfl hbb.out ?_; intro a w3 jb hd hsz hp h3 hj3 hjb hb3; obtain ⟨tm, df⟩ := a; simp only at hd hsz hp h3; subst hd; obtain ⟨x0, x1, x2, x3, x4, x5, x6, x7, x8, x9, x10, x11, x12, x13, x14, x15, x16, x17, x18, x19, x20, x21, x22, x23, x24, x25, x26, x27, x28, x29, x30, x31, x32, x33, x34, x35, x36, x37, x38, x39, x40, x41, x42, x43, x44, rfl⟩ := tmps45 tm hsz; obtain rfl : x0 = jv k t (.slice a1 ns.length c1) (.slice a2 vs.length c2) := hp 0 (by omega); obtain rfl : x1 = .pointer (some ⟨w.heap.size, 0, none⟩) := hp 1 (by omega); obtain rfl : x2 = .pointer (some ⟨w1.heap.size, 0, none⟩) := hp 2 (by omega); obtain rfl : x3 = .pointer (some ⟨jb, 0, none⟩) := h3; obtain rfl : x4 = undef := hp 4 (by omega); obtain rfl : x5 = undef := hp 5 (by omega); obtain rfl : x6 = undef := hp 6 (by omega); obtain rfl : x7 = undef := hp 7 (by omega); obtain rfl : x14 = undef := hp 14 (by omega); obtain rfl : x15 = undef := hp 15 (by omega); obtain rfl : x16 = undef := hp 16 (by omega); obtain rfl : x17 = undef := hp 17 (by omega); obtain rfl : x18 = undef := hp 18 (by omega); obtain rfl : x19 = undef := hp 19 (by omega); obtain rfl : x20 = undef := hp 20 (by omega); obtain rfl : x21 = undef := hp 21 (by omega); obtain rfl : x22 = undef := hp 22 (by omega); obtain rfl : x23 = undef := hp 23 (by omega); obtain rfl : x24 = undef := hp 24 (by omega); obtain rfl : x25 = undef := hp 25 (by omega); obtain rfl : x26 = undef := hp 26 (by omega); obtain rfl : x27 = undef := hp 27 (by omega); obtain rfl : x28 = undef := hp 28 (by omega); obtain rfl : x29 = undef := hp 29 (by omega); obtain rfl : x30 = undef := hp 30 (by omega); obtain rfl : x31 = undef := hp 31 (by omega); obtain rfl : x32 = undef := hp 32 (by omega); obtain rfl : x33 = undef := hp 33 (by omega); obtain rfl : x34 = undef := hp 34 (by omega); obtain rfl : x35 = undef := hp 35 (by omega); obtain rfl : x36 = undef := hp 36 (by omega); obtain rfl : x37 = undef := hp 37 (by omega); obtain rfl : x38 = undef := hp 38 (by omega); obtain rfl : x39 = undef := hp 39 (by omega); obtain rfl : x40 = undef := hp 40 (by omega); obtain rfl : x41 = undef := hp 41 (by omega); obtain rfl : x42 = undef := hp 42 (by omega); obtain rfl : x43 = undef := hp 43 (by omega); obtain rfl : x44 = undef := hp 44 (by omega); clear hp hsz; obtain ⟨S3, G3, R3, B3, N3⟩ := copy_laid hb1 hs1 hg2 hb2 hs2 hbb hj3 hjb hb3; clear hj3 hb3 hjb hg1 hb1 hs1 hg2 hb2 hs2 hbb; obtain ⟨d1, d2⟩ := copy_cells (w := w) (jb := jb) (Kept.refl _ _ w3) G3 (by have := N3.out; omega); go_frame))
  go_loopw [17] (fun iv wr => ∃ (i : Nat) (nv1 : Value), i ≤ ns.length ∧ iv = .int .i64 i ∧ Hid (Sc jb w3.heap.size k t nv1 (.slice none 0 0) (ns.take i) [] wr) ∧ Hid (Kept w3.heap.size [jb] w3 wr)) (fun iv _ => ns.length - (intOf iv).toNat)
  case atStart => exact ⟨0, _, by omega, rfl, S3, Lib.hid (Kept.refl _ _ _)⟩
  case round =>
    obtain ⟨i, nv1, hi, rfl, hsc, hke⟩ := hrel
    by_cases hiN : i < ns.length
    · have hx := List.getElem?_eq_getElem hiN
      generalize ns[i] = x at hx
      obtain ⟨g, o, rfl, hgB, hg, hcx⟩ := HN.out i x hx
      have hcr : wr.cell? ⟨g, o + i, none⟩ = some (.string (bs x)) := by
        have hB3 := B3.out.size
        have n3 := N3.out
        exact (hke.out.cell (p := ⟨g, o + i, none⟩) (by show g < _; omega) (by simp; omega)).trans ((cell_below hcx B3.out hg))
      have hxl := Lib.hid (HNS.out x (List.mem_of_getElem? hx))
      have htk := Lib.hid (show ns.take (i + 1) = ns.take i ++ [x] by rw [List.take_add_one, hx]; rfl)
      clear hcx hx HN HK HS HNS HKS HC
      go_wp2_with (first | (refine copy_name jb w3.heap.size k t nv1 (.slice none 0 0) (ns.take i) [] _ 5 _ wr hsc.out (by rw [List.length_take]; omega) rfl rfl rfl x hxl.out rfl ?_; intro a w4 nv2 hd hsz hp hsc4 hk4; obtain ⟨tm, df⟩ := a; simp only at hd hsz hp; subst hd; obtain ⟨y0, y1, y2, y3, y4, y5, y6, y7, y8, y9, y10, y11, y12, y13, y14, y15, y16, y17, y18, y19, y20, y21, y22, y23, y24, y25, y26, y27, y28, y29, y30, y31, y32, y33, y34, y35, y36, y37, y38, y39, y40, y41, y42, y43, y44, rfl⟩ := tmps45 tm hsz; obtain rfl : y0 = jv k t (.slice (some ⟨g, o, none⟩) ns.length c1) (.slice a2 vs.length c2) := hp 0 (by omega); obtain rfl : y1 = .pointer (some ⟨w.heap.size, 0, none⟩) := hp 1 (by omega); obtain rfl : y2 = .pointer (some ⟨w1.heap.size, 0, none⟩) := hp 2 (by omega); obtain rfl : y3 = .pointer (some ⟨jb, 0, none⟩) := hp 3 (by omega); obtain rfl : y4 = undef := hp 4 (by omega); obtain rfl : y5 = .string (bs x) := hp 5 (by omega); obtain rfl : y6 = undef := hp 6 (by omega); obtain rfl : y7 = undef := hp 7 (by omega); obtain rfl : y8 = x8 := hp 8 (by omega); obtain rfl : y9 = x9 := hp 9 (by omega); obtain rfl : y10 = x10 := hp 10 (by omega); obtain rfl : y11 = x11 := hp 11 (by omega); obtain rfl : y12 = x12 := hp 12 (by omega); obtain rfl : y13 = x13 := hp 13 (by omega); obtain rfl : y14 = .pointer (some ⟨w.heap.size, 2, none⟩) := hp 14 (by omega); obtain rfl : y15 = .slice (some ⟨g, o, none⟩) ns.length c1 := hp 15 (by omega); obtain rfl : y16 = .int .i64 (ns.length : Int) := hp 16 (by omega); obtain rfl : y17 = .int .i64 (i : Int) := hp 17 (by omega); obtain rfl : y18 = .bool true := hp 18 (by omega); obtain rfl : y19 = .pointer (some ⟨g, o + i, none⟩) := hp 19 (by omega); obtain rfl : y20 = .string (bs x) := hp 20 (by omega); obtain rfl : y28 = u28 := hp 28 (by omega); obtain rfl : y29 = undef := hp 29 (by omega); obtain rfl : y30 = undef := hp 30 (by omega); obtain rfl : y31 = undef := hp 31 (by omega); obtain rfl : y32 = undef := hp 32 (by omega); obtain rfl : y33 = undef := hp 33 (by omega); obtain rfl : y34 = undef := hp 34 (by omega); obtain rfl : y35 = undef := hp 35 (by omega); obtain rfl : y36 = undef := hp 36 (by omega); obtain rfl : y37 = undef := hp 37 (by omega); obtain rfl : y38 = undef := hp 38 (by omega); obtain rfl : y39 = undef := hp 39 (by omega); obtain rfl : y40 = undef := hp 40 (by omega); obtain rfl : y41 = undef := hp 41 (by omega); obtain rfl : y42 = undef := hp 42 (by omega); obtain rfl : y43 = undef := hp 43 (by omega); obtain rfl : y44 = undef := hp 44 (by omega); clear hp hsz; have SC4 := Lib.hid hsc4; have K4 := Lib.hid hk4; clear hsc4 hk4; go_frame))
      go_roundw
      case rel => exact ⟨i + 1, nv2, by omega, by go_num, by rw [htk.out]; exact SC4, Lib.hid (hke.out.trans K4.out)⟩
      case measure => simp [intOf]; omega
    · obtain rfl : i = ns.length := by omega
      have SCn := Lib.hid (show Sc jb w3.heap.size k t nv1 (.slice none 0 0) ns [] wr by have := hsc.out; rwa [List.take_length] at this)
      obtain ⟨d3, d4⟩ := copy_cells (w := w) (jb := jb) hke.out G3 (by have := N3.out; omega)
      clear HN HNS d1 d2 hsc
      go_wp2_with fail
      go_loopw [32] (fun iv wr => ∃ (q : Nat) (kv1 : Value), q ≤ vs.length ∧ iv = .int .i64 q ∧ Hid (Sc jb w3.heap.size k t nv1 kv1 ns (ks.take q) wr) ∧ Hid (Kept w3.heap.size [jb] w3 wr)) (fun iv _ => vs.length - (intOf iv).toNat)
      case atStart => exact ⟨0, _, by omega, rfl, SCn, hke⟩
      case round =>
        obtain ⟨q, kv1, hq, rfl, hsc2, hke2⟩ := hrel
        clear d3 d4
        by_cases hqN : q < vs.length
        · have hqk : q < ks.length := by rw [← HL.out]; exact hqN
          have hj := List.getElem?_eq_getElem hqk
          have hv := List.getElem?_eq_getElem hqN
          generalize ks[q] = j at hj
          generalize vs[q] = v at hv
          obtain ⟨g, o, rfl, hgB, hg, hli⟩ := HK.out q v hv
          have hat := HS.out q j v hj hv
          have hslim := HKS.out j (List.mem_of_getElem? hj)
          have hCj := HC.out j (List.mem_of_getElem? hj)
          have htk := Lib.hid (show ks.take (q + 1) = ks.take q ++ [j] by rw [List.take_add_one, hj]; rfl)
          have hBq : Below w.heap.size w wr := below_kept B3.out hke2.out (by have := N3.out; omega) B3.out.size
          have HX := Lib.hid (fun u (hu : Below wr.heap.size wr u) => hCj v B u hslim (hat.low (hBq.trans (hu.mono hBq.size)) hB) (Nat.le_trans hB (Nat.le_trans hBq.size hu.size)))
          obtain ⟨kk, tt, nns, kks⟩ := j
          obtain ⟨nvv, kvv, _, rfl, h1, h2, _⟩ := hat.jv_
          have hrow := Lib.hid (lies_row (hli.frame (hBq.block g hg)))
          rw [Nat.mul_comm 4 q] at hrow
          clear hli hat hslim hCj hj hv HK HS HKS HC
          go_wp2_with (first | (refine wpList_load_mid rfl 25 _ rfl g (o + q * 4) rfl (jrow kk tt nvv kvv) _ hrow.out Tryd.underlying25 rfl (by kernel_rfl) ?_; go_frame) | (refine wpList_alloc_v (w := wr) rfl 25 rfl _ allocJson ?_; intro w5 hg5 hb5 hs5; go_frame) | (refine wpList_store_json rfl _ _ rfl wr.heap.size kk tt nvv kvv noRow rfl rfl h1 h2 rfl hg5.out ?_; intro w6 hg6 hk6 hs6; have B6 := one_laid hb5 hs5 hk6; have S6 := Lib.hid (hsc2.out.below_ B6.out); go_frame) | (refine copy_kid jb w3.heap.size k t nv1 kv1 ns (ks.take q) _ 10 _ w6 S6.out (by rw [List.length_take]; omega) rfl rfl rfl _ wr.heap.size (jv kk tt nvv kvv) (jrow kk tt nvv kvv) rfl rfl rfl hg6.out (fun u hu => HX.out u (B6.out.trans (hu.mono B6.out.size))) ?_; intro a w7 kv2 hd hsz hp hsc7 hk7; obtain ⟨tm, df⟩ := a; simp only at hd hsz hp; subst hd; obtain ⟨z0, z1, z2, z3, z4, z5, z6, z7, z8, z9, z10, z11, z12, z13, z14, z15, z16, z17, z18, z19, z20, z21, z22, z23, z24, z25, z26, z27, z28, z29, z30, z31, z32, z33, z34, z35, z36, z37, z38, z39, z40, z41, z42, z43, z44, rfl⟩ := tmps45 tm hsz; obtain rfl : z0 = jv k t (.slice a1 ns.length c1) (.slice (some ⟨g, o, none⟩) vs.length c2) := hp 0 (by omega); obtain rfl : z1 = .pointer (some ⟨w.heap.size, 0, none⟩) := hp 1 (by omega); obtain rfl : z2 = .pointer (some ⟨w1.heap.size, 0, none⟩) := hp 2 (by omega); obtain rfl : z3 = .pointer (some ⟨jb, 0, none⟩) := hp 3 (by omega); obtain rfl : z4 = undef := hp 4 (by omega); obtain rfl : z5 = u5 := hp 5 (by omega); obtain rfl : z6 = undef := hp 6 (by omega); obtain rfl : z7 = .pointer (some ⟨wr.heap.size, 0, none⟩) := hp 7 (by omega); obtain rfl : z8 = x8 := hp 8 (by omega); obtain rfl : z9 = x9 := hp 9 (by omega); obtain rfl : z10 = x10 := hp 10 (by omega); obtain rfl : z11 = x11 := hp 11 (by omega); obtain rfl : z12 = x12 := hp 12 (by omega); obtain rfl : z13 = x13 := hp 13 (by omega); obtain rfl : z14 = .pointer (some ⟨w.heap.size, 2, none⟩) := hp 14 (by omega); obtain rfl : z15 = .slice a1 ns.length c1 := hp 15 (by omega); obtain rfl : z16 = .int .i64 (ns.length : Int) := hp 16 (by omega); obtain rfl : z17 = .int .i64 (ns.length : Int) := hp 17 (by omega); obtain rfl : z18 = .bool false := hp 18 (by omega); obtain rfl : z19 = u19 := hp 19 (by omega); obtain rfl : z20 = u20 := hp 20 (by omega); obtain rfl : z21 = u21 := hp 21 (by omega); obtain rfl : z22 = u22 := hp 22 (by omega); obtain rfl : z23 = u23 := hp 23 (by omega); obtain rfl : z24 = u24 := hp 24 (by omega); obtain rfl : z25 = u25 := hp 25 (by omega); obtain rfl : z26 = u26 := hp 26 (by omega); obtain rfl : z27 = u27 := hp 27 (by omega); obtain rfl : z28 = u28 := hp 28 (by omega); obtain rfl : z29 = .pointer (some ⟨w.heap.size, 3, none⟩) := hp 29 (by omega); obtain rfl : z30 = .slice (some ⟨g, o, none⟩) vs.length c2 := hp 30 (by omega); obtain rfl : z31 = .int .i64 (vs.length : Int) := hp 31 (by omega); obtain rfl : z32 = .int .i64 (q : Int) := hp 32 (by omega); obtain rfl : z33 = .bool true := hp 33 (by omega); obtain rfl : z34 = .pointer (some ⟨g, o + q * 4, none⟩) := hp 34 (by omega); obtain rfl : z35 = .agg (jrow kk tt nvv kvv).toArray := hp 35 (by omega); obtain rfl : z43 = u43 := hp 43 (by omega); obtain rfl : z44 = undef := hp 44 (by omega); clear hp hsz; have SC7 := Lib.hid hsc7; have K7 := Lib.hid hk7; clear hsc7 hk7; go_frame))
          go_roundw
          case rel => exact ⟨q + 1, kv2, by omega, by go_num, by rw [htk.out]; exact SC7, Lib.hid (hke2.out.trans (((Kept.of_below B6.out).mono hke2.out.size (fun _ _ h => h)).trans K7.out))⟩
          case measure => simp [intOf]; omega
        · obtain rfl : q = vs.length := by omega
          have SCF := Lib.hid (show Sc jb w3.heap.size k t nv1 kv1 ns ks wr by have := hsc2.out; rwa [List.take_of_length_le (by rw [HL.out]; exact Nat.le_refl _)] at this)
          have GR := Lib.hid (hke2.out.heap R3.out (lt_of_heap R3.out) (by have := N3.out; simp; omega))
          obtain ⟨F1, o1, o2⟩ := SCF.out.made
          clear hsc2 HK HS HKS HC
          go_wp2_with (first | (refine wpList_load_mid rfl 25 _ rfl jb 0 rfl (jrow k t nv1 kv1) _ (range_of_list SCF.out.jb_) Tryd.underlying25 rfl (by kernel_rfl) ?_; go_frame) | (refine wpList_store_json rfl _ _ rfl w1.heap.size k t nv1 kv1 noRow rfl rfl o1 o2 rfl GR.out ?_; intro w9 hg9 hk9 hs9; go_frame))
          refine bodyPost_ret (results_json rfl _ _ _ k t _ _ rfl hg9.out) rfl ?_
          have n3 := N3.out
          have hs3 := B3.out.size
          have hs4 := hke2.out.size
          have BQ := below_kept B3.out hke2.out (by omega) hs3
          refine ⟨_, rfl, ?_, below_kept BQ hk9.out (by omega) (by omega)⟩
          unfold Made
          rw [hs9.out]
          exact (F1.frame fun g g1 g2 => hk9.out.block g g2 (by simp; omega)).mono (by omega) (Nat.le_refl _)
end Go.Proofs.YthfnlnhehececaaDoor

/- The walk of MatrixReckons. -/
import Derived.Test.YtnaeekjocaecmaaMRk2
namespace Go.Proofs.Ytnaeekjocaecmaa
open Go.RowKit

/-- A box that holds a matrix. -/
structure BX (B : Nat) (r c : Int) (a : Option Addr) (n cap : Nat) (w : World) : Prop where
  box : w.heap[B]? = some (.cells [Value.int .i64 r, .int .i64 c, .slice a n cap].toArray 24 (0, 0))
theorem BX.below {B : Nat} {r c : Int} {a : Option Addr} {n cap : Nat} {w w' : World} (h : BX B r c a n cap w) (hb : Below w.heap.size w w') : BX B r c a n cap w' := ⟨(hb.block B (lt_of_heap h.box)).trans h.box⟩
/-- The 77 behind what is lent. -/
structure T77 (g len cap : Nat) (w : World) : Prop where
  room : len + 1 ≤ cap
  at_ : w.cell? ⟨g, len, none⟩ = some (.int .u8 77)
  lt : g < w.heap.size
theorem T77.below {g len cap : Nat} {w w' : World} (h : T77 g len cap w) (hb : Below w.heap.size w w') : T77 g len cap w' := ⟨h.room, (World.cell?_of_block (w := w) (a := ⟨g, len, none⟩) (hb.block g h.lt)).trans h.at_, Nat.lt_of_lt_of_le h.lt hb.size⟩
theorem lent_t (r c : Int) (a0 : Option Addr) (len cap : Nat) (l : List UInt8) (hz : a0 = none → cap = 0) (hlen : len ≤ 1600) (w : World) (h : Hand a0 len cap l w) :
    Calls Try.prog 20 #[.agg #[.int .i64 r, .int .i64 c, .slice a0 len cap]] w fun e w' => ∃ g cap2, e = .returned (.agg #[.int .i64 r, .int .i64 c, .slice (some ⟨g, 0, none⟩) len cap2]) ∧ Hand (some ⟨g, 0, none⟩) len cap2 l w' ∧ T77 g len cap2 w' ∧ Below w.heap.size w w' :=
  (lent_full r c a0 len cap l hz hlen w h).mono fun _ _ ⟨g, cap2, he, hH, ⟨h1, h2, _, h3⟩, hb⟩ => ⟨g, cap2, he, hH, ⟨h1, h2, h3⟩, hb⟩
/-- What stands while 99 is written into what came. -/
structure Lp (wP : World) (g n bq : Nat) (R C : Int) (a : Option Addr) (cap g' n' bu : Nat) (R' C' : Int) (a' : Option Addr) (cap' : Nat) (wr : World) : Prop where
  old : Below wP.heap.size wP wr
  bxq : BX bq R C a n cap wr
  bxu : BX bu R' C' a' n' cap' wr
  cq : 0 < n → a = some ⟨g, 0, none⟩ ∧ wP.heap.size ≤ g ∧ n ≤ cap ∧ ∃ l : List UInt8, l.length = n ∧ Blk g l wr
  cu : 0 < n' → a' = some ⟨g', 0, none⟩ ∧ wP.heap.size ≤ g' ∧ n' ≤ cap' ∧ ∃ l : List UInt8, l.length = n' ∧ Blk g' l wr
theorem Lp.swap {wP : World} {g n bq : Nat} {R C : Int} {a : Option Addr} {cap g' n' bu : Nat} {R' C' : Int} {a' : Option Addr} {cap' : Nat} {wr : World} (h : Lp wP g n bq R C a cap g' n' bu R' C' a' cap' wr) : Lp wP g' n' bu R' C' a' cap' g n bq R C a cap wr := ⟨h.old, h.bxu, h.bxq, h.cu, h.cq⟩
theorem Blk.ne {g B : Nat} {l : List UInt8} {r c : Int} {a : Option Addr} {n cap : Nat} {w : World} (h : Blk g l w) (hx : BX B r c a n cap w) : B ≠ g := fun e => by
  have h1 := hx.box
  rw [e, show w.heap[g]? = _ from h] at h1
  injection h1 with h1
  injection h1 with _ h2 _
  exact absurd h2 (by decide)
theorem Blk.len {g : Nat} {l l' : List UInt8} {w : World} (h : Blk g l w) (h' : Blk g l' w) : l.length = l'.length := by
  have h1 : some (Obj.cells (l.map u8v).toArray 5 (0, 0)) = some (.cells (l'.map u8v).toArray 5 (0, 0)) := (show w.heap[g]? = _ from h).symm.trans h'
  injection h1 with h1
  injection h1 with h2 _ _
  have h3 := congrArg Array.size h2
  simpa using h3
theorem Blk.set {g : Nat} {l : List UInt8} {w : World} (h : Blk g l w) (i : Nat) (x : UInt8) : Blk g (l.set i x) (w.setCell ⟨g, i, none⟩ (.int .u8 (x.toNat : Int))) := by
  unfold Blk
  rw [set_list h i (.int .u8 x.toNat), List.map_set]; rfl
theorem Lp.set {wP : World} {g n bq : Nat} {R C : Int} {a : Option Addr} {cap g' n' bu : Nat} {R' C' : Int} {a' : Option Addr} {cap' : Nat} {wr : World} (h : Lp wP g n bq R C a cap g' n' bu R' C' a' cap' wr) (hn : 0 < n) (i : Nat) : Lp wP g n bq R C a cap g' n' bu R' C' a' cap' (wr.setCell ⟨g, i, none⟩ (.int .u8 99)) := by
  obtain ⟨ha, hg, hc, l, hl, hb⟩ := h.cq hn
  have hs := hb.set i (99 : UInt8)
  refine ⟨h.old.setCell hg _, ⟨(heap_setCell_other _ _ _ _ (hb.ne h.bxq)).trans h.bxq.box⟩, ⟨(heap_setCell_other _ _ _ _ (hb.ne h.bxu)).trans h.bxu.box⟩, fun _ => ⟨ha, hg, hc, _, by rw [List.length_set]; exact hl, hs⟩, fun h0 => ?_⟩
  obtain ⟨ha', hg', hc', l', hl', hb'⟩ := h.cu h0
  refine ⟨ha', hg', hc', ?_⟩
  by_cases e : g' = g
  · subst e
    exact ⟨_, by rw [List.length_set, hb.len hb', hl'], hs⟩
  · exact ⟨l', hl', (heap_setCell_other _ _ _ _ (by show g' ≠ g; exact e)).trans hb'⟩
theorem Lp.drewN {wP : World} {g n bq : Nat} {R C : Int} {a : Option Addr} {cap g' n' bu : Nat} {R' C' : Int} {a' : Option Addr} {cap' : Nat} {wr : World} (h : Lp wP g n bq R C a cap g' n' bu R' C' a' cap' wr) (m : Nat) : Lp wP g n bq R C a cap g' n' bu R' C' a' cap' (wr.drewN m) :=
  ⟨below_drewN h.old m, ⟨h.bxq.box⟩, ⟨h.bxu.box⟩, h.cq, h.cu⟩
theorem OutM.cells {B code n : Nat} {l : List UInt8} {a : Option Addr} {cap : Nat} {E : Value} {w : World} (h : OutM B code n l a cap E w) : ∃ g, 0 < n → a = some ⟨g, 0, none⟩ ∧ B ≤ g ∧ n ≤ cap ∧ ∃ l : List UInt8, l.length = n ∧ Blk g l w := by
  by_cases h0 : 0 < n
  · obtain ⟨g, h1, h2, h3⟩ := h.own h0
    exact ⟨g, fun _ => ⟨h1, h2, h.h.hc, l, h.h.hl, h3⟩⟩
  · exact ⟨0, fun h => absurd h h0⟩
theorem blk_cell {g i : Nat} {l : List UInt8} {w : World} (h : Blk g l w) (hi : i < l.length) : ∃ x : UInt8, w.cell? ⟨g, i, none⟩ = some (u8v x) :=
  ⟨l[i], by rw [cell_of_list h, List.getElem?_map, List.getElem?_eq_getElem hi]; rfl⟩
set_option maxRecDepth 20000 in
set_option maxHeartbeats 4000000 in
theorem Reckons_w1 (ra ca : Int) (a0 : Option Addr) (la capa : Nat) (rb cb : Int) (b0 : Option Addr) (lb capb : Nat) (s0 : Option Addr) (nr capr : Nat) (hwA : wideB ra ca la = true) (w : World) :
    Calls Try.prog 4 #[.agg #[.int .i64 ra, .int .i64 ca, .slice a0 la capa], .agg #[.int .i64 rb, .int .i64 cb, .slice b0 lb capb], .slice s0 nr capr] w fun e w' => e = .returned (.bool true) ∧ Below w.heap.size w w' := by
  obtain ⟨wa, hwa⟩ : ∃ wa, wa = (w.alloc (.cells #[.int .i64 ra, .int .i64 ca, .slice a0 la capa] 24)).alloc (.cells #[.int .i64 rb, .int .i64 cb, .slice b0 lb capb] 24) := ⟨_, rfl⟩
  have B_0 : Hid (Below w.heap.size w wa) := Lib.hid (by rw [hwa]; exact (below_alloc w _).alloc (by simp) _)
  have xa_0 : Hid (BX w.heap.size ra ca a0 la capa wa) := Lib.hid (by rw [hwa]; exact ⟨heap_alloc2_old _ _ _⟩)
  have xb_0 : Hid (BX (w.heap.size + 1) rb cb b0 lb capb wa) := Lib.hid (by rw [hwa]; exact ⟨heap_alloc2_new _ _ _⟩)
  have HWA := Lib.hid hwa
  clear hwa
  go_enter Try.func4, Try.ntmps4
  go_wp2_with fail
  rw [← HWA.out]
  clear HWA
  try go_wp2_with fail
  refine (known_any _).mono ?_
  rintro e w1 ⟨rfl, hb1⟩
  have xa_1 := Lib.hid (xa_0.out.below (hb1))
  have xb_2 := Lib.hid (xb_0.out.below (hb1))
  have B_3 := Lib.hid (B_0.out.trans ((hb1).mono B_0.out.size))
  clear xa_0 xb_0 B_0 hb1
  obtain ⟨c0_4, c1_4, c2_4⟩ := heap_cell0 xa_1.out.box
  go_wp2_with fail
  refine (wide_any ra ca a0 la capa _).mono ?_
  rintro e w2 ⟨rfl, hb2⟩
  have xa_5 := Lib.hid (xa_1.out.below (hb2))
  have xb_6 := Lib.hid (xb_2.out.below (hb2))
  have B_7 := Lib.hid (B_3.out.trans ((hb2).mono B_3.out.size))
  clear xa_1 xb_2 B_3 hb2 c0_4 c1_4 c2_4
  rw [hwA]
  go_wp2_with fail
  go_ret
  exact ⟨rfl, B_7.out⟩
set_option maxRecDepth 20000 in
set_option maxHeartbeats 4000000 in
theorem Reckons_w2 (ra ca : Int) (a0 : Option Addr) (la capa : Nat) (rb cb : Int) (b0 : Option Addr) (lb capb : Nat) (s0 : Option Addr) (nr capr : Nat) (hwA : wideB ra ca la = false) (hwb : wideB rb cb lb = true) (w : World) :
    Calls Try.prog 4 #[.agg #[.int .i64 ra, .int .i64 ca, .slice a0 la capa], .agg #[.int .i64 rb, .int .i64 cb, .slice b0 lb capb], .slice s0 nr capr] w fun e w' => e = .returned (.bool true) ∧ Below w.heap.size w w' := by
  obtain ⟨wa, hwa⟩ : ∃ wa, wa = (w.alloc (.cells #[.int .i64 ra, .int .i64 ca, .slice a0 la capa] 24)).alloc (.cells #[.int .i64 rb, .int .i64 cb, .slice b0 lb capb] 24) := ⟨_, rfl⟩
  have B_0 : Hid (Below w.heap.size w wa) := Lib.hid (by rw [hwa]; exact (below_alloc w _).alloc (by simp) _)
  have xa_0 : Hid (BX w.heap.size ra ca a0 la capa wa) := Lib.hid (by rw [hwa]; exact ⟨heap_alloc2_old _ _ _⟩)
  have xb_0 : Hid (BX (w.heap.size + 1) rb cb b0 lb capb wa) := Lib.hid (by rw [hwa]; exact ⟨heap_alloc2_new _ _ _⟩)
  have HWA := Lib.hid hwa
  clear hwa
  go_enter Try.func4, Try.ntmps4
  go_wp2_with fail
  rw [← HWA.out]
  clear HWA
  try go_wp2_with fail
  refine (known_any _).mono ?_
  rintro e w1 ⟨rfl, hb1⟩
  have xa_1 := Lib.hid (xa_0.out.below (hb1))
  have xb_2 := Lib.hid (xb_0.out.below (hb1))
  have B_3 := Lib.hid (B_0.out.trans ((hb1).mono B_0.out.size))
  clear xa_0 xb_0 B_0 hb1
  obtain ⟨c0_4, c1_4, c2_4⟩ := heap_cell0 xa_1.out.box
  go_wp2_with fail
  refine (wide_any ra ca a0 la capa _).mono ?_
  rintro e w2 ⟨rfl, hb2⟩
  have xa_5 := Lib.hid (xa_1.out.below (hb2))
  have xb_6 := Lib.hid (xb_2.out.below (hb2))
  have B_7 := Lib.hid (B_3.out.trans ((hb2).mono B_3.out.size))
  clear xa_1 xb_2 B_3 hb2 c0_4 c1_4 c2_4
  rw [hwA]
  obtain ⟨c0_8, c1_8, c2_8⟩ := heap_cell0 xb_6.out.box
  go_wp2_with fail
  refine (wide_any rb cb b0 lb capb _).mono ?_
  rintro e w3 ⟨rfl, hb3⟩
  have xa_9 := Lib.hid (xa_5.out.below (hb3))
  have xb_10 := Lib.hid (xb_6.out.below (hb3))
  have B_11 := Lib.hid (B_7.out.trans ((hb3).mono B_7.out.size))
  clear xa_5 xb_6 B_7 hb3 c0_8 c1_8 c2_8
  rw [hwb]
  go_wp2_with fail
  go_ret
  exact ⟨rfl, B_11.out⟩
set_option maxRecDepth 20000 in
set_option maxHeartbeats 4000000 in
theorem Reckons_w3 (ra ca : Int) (a0 : Option Addr) (la capa : Nat) (rb cb : Int) (b0 : Option Addr) (lb capb : Nat) (s0 : Option Addr) (nr capr : Nat) (hwA : wideB ra ca la = false) (hwb : wideB rb cb lb = false) (hnr : decide ((300 : Int) < (nr : Int)) = true) (w : World) :
    Calls Try.prog 4 #[.agg #[.int .i64 ra, .int .i64 ca, .slice a0 la capa], .agg #[.int .i64 rb, .int .i64 cb, .slice b0 lb capb], .slice s0 nr capr] w fun e w' => e = .returned (.bool true) ∧ Below w.heap.size w w' := by
  obtain ⟨wa, hwa⟩ : ∃ wa, wa = (w.alloc (.cells #[.int .i64 ra, .int .i64 ca, .slice a0 la capa] 24)).alloc (.cells #[.int .i64 rb, .int .i64 cb, .slice b0 lb capb] 24) := ⟨_, rfl⟩
  have B_0 : Hid (Below w.heap.size w wa) := Lib.hid (by rw [hwa]; exact (below_alloc w _).alloc (by simp) _)
  have xa_0 : Hid (BX w.heap.size ra ca a0 la capa wa) := Lib.hid (by rw [hwa]; exact ⟨heap_alloc2_old _ _ _⟩)
  have xb_0 : Hid (BX (w.heap.size + 1) rb cb b0 lb capb wa) := Lib.hid (by rw [hwa]; exact ⟨heap_alloc2_new _ _ _⟩)
  have HWA := Lib.hid hwa
  clear hwa
  go_enter Try.func4, Try.ntmps4
  go_wp2_with fail
  rw [← HWA.out]
  clear HWA
  try go_wp2_with fail
  refine (known_any _).mono ?_
  rintro e w1 ⟨rfl, hb1⟩
  have xa_1 := Lib.hid (xa_0.out.below (hb1))
  have xb_2 := Lib.hid (xb_0.out.below (hb1))
  have B_3 := Lib.hid (B_0.out.trans ((hb1).mono B_0.out.size))
  clear xa_0 xb_0 B_0 hb1
  obtain ⟨c0_4, c1_4, c2_4⟩ := heap_cell0 xa_1.out.box
  go_wp2_with fail
  refine (wide_any ra ca a0 la capa _).mono ?_
  rintro e w2 ⟨rfl, hb2⟩
  have xa_5 := Lib.hid (xa_1.out.below (hb2))
  have xb_6 := Lib.hid (xb_2.out.below (hb2))
  have B_7 := Lib.hid (B_3.out.trans ((hb2).mono B_3.out.size))
  clear xa_1 xb_2 B_3 hb2 c0_4 c1_4 c2_4
  rw [hwA]
  obtain ⟨c0_8, c1_8, c2_8⟩ := heap_cell0 xb_6.out.box
  go_wp2_with fail
  refine (wide_any rb cb b0 lb capb _).mono ?_
  rintro e w3 ⟨rfl, hb3⟩
  have xa_9 := Lib.hid (xa_5.out.below (hb3))
  have xb_10 := Lib.hid (xb_6.out.below (hb3))
  have B_11 := Lib.hid (B_7.out.trans ((hb3).mono B_7.out.size))
  clear xa_5 xb_6 B_7 hb3 c0_8 c1_8 c2_8
  rw [hwb]
  go_wp2_with fail
  go_ret
  exact ⟨rfl, B_11.out⟩
set_option maxRecDepth 20000 in
set_option maxHeartbeats 16000000 in
theorem Reckons_go (ra ca : Int) (a0 : Option Addr) (la capa : Nat) (lA : List UInt8) (rb cb : Int) (b0 : Option Addr) (lb capb : Nat) (lB : List UInt8) (s0 : Option Addr) (nr capr : Nat) (f : Nat → Int) (code1 RM CM NM : Nat) (lM : List UInt8) (hM : Two2 21 25 ra ca la lA rb cb lb lB code1 RM CM NM lM) (code2 RI CI NI : Nat) (lI : List UInt8) (hI : One2 22 26 ra ca la lA code2 RI CI NI lI) (code3 K : Nat) (hR : Rank2 ra ca la lA code3 K)
    (code4 RP CP NP : Nat) (lP : List UInt8) (hP : Pick2 ra ca la lA nr f code4 RP CP NP lP) (code5 RU CU NU : Nat) (lU : List UInt8) (hU : Two2 17 29 ra ca la lA rb cb lb lB code5 RU CU NU lU)
    (hwA : wideB ra ca la = false) (hwb : wideB rb cb lb = false) (hnr : nr ≤ 300) (za : a0 = none → capa = 0) (zb : b0 = none → capb = 0) (zs : s0 = none → capr = 0) (w : World) (hA0 : Hand a0 la capa lA w) (hB0 : Hand b0 lb capb lB w) (hs0 : IX s0 nr f w) :
    Calls Try.prog 4 #[.agg #[.int .i64 ra, .int .i64 ca, .slice a0 la capa], .agg #[.int .i64 rb, .int .i64 cb, .slice b0 lb capb], .slice s0 nr capr] w fun e w' => e = .returned (.bool true) ∧ Below w.heap.size w w' := by
  obtain ⟨wa, hwa⟩ : ∃ wa, wa = (w.alloc (.cells #[.int .i64 ra, .int .i64 ca, .slice a0 la capa] 24)).alloc (.cells #[.int .i64 rb, .int .i64 cb, .slice b0 lb capb] 24) := ⟨_, rfl⟩
  have B_0 : Hid (Below w.heap.size w wa) := Lib.hid (by rw [hwa]; exact (below_alloc w _).alloc (by simp) _)
  have xa_0 : Hid (BX w.heap.size ra ca a0 la capa wa) := Lib.hid (by rw [hwa]; exact ⟨heap_alloc2_old _ _ _⟩)
  have xb_0 : Hid (BX (w.heap.size + 1) rb cb b0 lb capb wa) := Lib.hid (by rw [hwa]; exact ⟨heap_alloc2_new _ _ _⟩)
  have HWA := Lib.hid hwa
  have ha_0 := Lib.hid (hA0.below B_0.out rfl)
  have hB_0 := Lib.hid (hB0.below B_0.out rfl)
  have ir_0 := Lib.hid (hs0.below B_0.out)
  have HM := Lib.hid hM
  have HI := Lib.hid hI
  have HR := Lib.hid hR
  have HP := Lib.hid hP
  have HU := Lib.hid hU
  have ZA := Lib.hid za
  have ZB := Lib.hid zb
  have ZS := Lib.hid zs
  have hla : la ≤ 1600 := by
    have h2 := hwA
    rw [wideB_eq, decide_eq_false_iff_not] at h2
    exact Nat.le_of_not_lt fun h => h2 (.inr (.inr h))
  have hlb : lb ≤ 1600 := by
    have h2 := hwb
    rw [wideB_eq, decide_eq_false_iff_not] at h2
    exact Nat.le_of_not_lt fun h => h2 (.inr (.inr h))
  have hnb : decide ((300 : Int) < (nr : Int)) = false := decide_eq_false (by omega)
  clear hwa hA0 hB0 hs0 hM hI hR hP hU za zb zs
  go_enter Try.func4, Try.ntmps4
  go_wp2_with fail
  rw [← HWA.out]
  clear HWA
  try go_wp2_with fail
  refine (known_any _).mono ?_
  rintro e w1 ⟨rfl, hb1⟩
  have ha_1 := Lib.hid (ha_0.out.below (hb1) rfl)
  have hB_2 := Lib.hid (hB_0.out.below (hb1) rfl)
  have ir_3 := Lib.hid (ir_0.out.below (hb1))
  have xa_4 := Lib.hid (xa_0.out.below (hb1))
  have xb_5 := Lib.hid (xb_0.out.below (hb1))
  have B_6 := Lib.hid (B_0.out.trans ((hb1).mono B_0.out.size))
  clear ha_0 hB_0 ir_0 xa_0 xb_0 B_0 hb1
  obtain ⟨c0_7, c1_7, c2_7⟩ := heap_cell0 xa_4.out.box
  go_wp2_with fail
  refine (wide_any ra ca a0 la capa _).mono ?_
  rintro e w2 ⟨rfl, hb2⟩
  have ha_8 := Lib.hid (ha_1.out.below (hb2) rfl)
  have hB_9 := Lib.hid (hB_2.out.below (hb2) rfl)
  have ir_10 := Lib.hid (ir_3.out.below (hb2))
  have xa_11 := Lib.hid (xa_4.out.below (hb2))
  have xb_12 := Lib.hid (xb_5.out.below (hb2))
  have B_13 := Lib.hid (B_6.out.trans ((hb2).mono B_6.out.size))
  clear ha_1 hB_2 ir_3 xa_4 xb_5 B_6 hb2 c0_7 c1_7 c2_7
  rw [hwA]
  clear hwA
  obtain ⟨c0_14, c1_14, c2_14⟩ := heap_cell0 xb_12.out.box
  go_wp2_with fail
  refine (wide_any rb cb b0 lb capb _).mono ?_
  rintro e w3 ⟨rfl, hb3⟩
  have ha_15 := Lib.hid (ha_8.out.below (hb3) rfl)
  have hB_16 := Lib.hid (hB_9.out.below (hb3) rfl)
  have ir_17 := Lib.hid (ir_10.out.below (hb3))
  have xa_18 := Lib.hid (xa_11.out.below (hb3))
  have xb_19 := Lib.hid (xb_12.out.below (hb3))
  have B_20 := Lib.hid (B_13.out.trans ((hb3).mono B_13.out.size))
  clear ha_8 hB_9 ir_10 xa_11 xb_12 B_13 hb3 c0_14 c1_14 c2_14
  rw [hwb]
  clear hwb
  obtain ⟨c0_21, c1_21, c2_21⟩ := heap_cell0 xa_18.out.box
  go_wp2_with fail
  refine (lent_t ra ca a0 la capa lA ZA.out hla _ ha_15.out).mono ?_
  rintro e w4 ⟨g1, k1, rfl, t0_4, t1_4, hb4⟩
  have ha_22 := Lib.hid (ha_15.out.below (hb4) rfl)
  have hB_23 := Lib.hid (hB_16.out.below (hb4) rfl)
  have ir_24 := Lib.hid (ir_17.out.below (hb4))
  have xa_25 := Lib.hid (xa_18.out.below (hb4))
  have xb_26 := Lib.hid (xb_19.out.below (hb4))
  have B_27 := Lib.hid (B_20.out.trans ((hb4).mono B_20.out.size))
  have hx_28 := Lib.hid t0_4
  have tx_29 := Lib.hid t1_4
  clear ha_15 hB_16 ir_17 xa_18 xb_19 B_20 t0_4 t1_4 hb4 c0_21 c1_21 c2_21
  go_wp2_with (refine wpList_store_whole rfl 24 _ _ rfl w4.heap.size [.int .i64 ra, .int .i64 ca, .slice (some ⟨g1, 0, none⟩) la k1] zeroRow 24 rfl rfl (heap_alloc_new _ _) rfl (by kernel_rfl) (row3_ones _ _ _ _ _) ?_; intro w5 h5 k5 s5; have hs5 := after_box k5.out; have x8_30 : Hid (BX w4.heap.size ra ca (some ⟨g1, 0, none⟩) la k1 w5) := Lib.hid ⟨h5.out⟩; have ha_31 := Lib.hid (ha_22.out.below (hs5) rfl); have hB_32 := Lib.hid (hB_23.out.below (hs5) rfl); have ir_33 := Lib.hid (ir_24.out.below (hs5)); have xa_34 := Lib.hid (xa_25.out.below (hs5)); have xb_35 := Lib.hid (xb_26.out.below (hs5)); have B_36 := Lib.hid (B_27.out.trans ((hs5).mono B_27.out.size)); have hx_37 := Lib.hid (hx_28.out.below (hs5) rfl); have tx_38 := Lib.hid (tx_29.out.below (hs5)); obtain ⟨c0_39, c1_39, c2_39⟩ := heap_cell0 xb_35.out.box; clear ha_22 hB_23 ir_24 xa_25 xb_26 B_27 hx_28 tx_29 hs5; go_frame)
  clear h5 k5 s5
  refine (lent_t rb cb b0 lb capb lB ZB.out hlb _ hB_32.out).mono ?_
  rintro e w6 ⟨g2, k2, rfl, t0_6, t1_6, hb6⟩
  have ha_40 := Lib.hid (ha_31.out.below (hb6) rfl)
  have hB_41 := Lib.hid (hB_32.out.below (hb6) rfl)
  have ir_42 := Lib.hid (ir_33.out.below (hb6))
  have xa_43 := Lib.hid (xa_34.out.below (hb6))
  have xb_44 := Lib.hid (xb_35.out.below (hb6))
  have B_45 := Lib.hid (B_36.out.trans ((hb6).mono B_36.out.size))
  have hx_46 := Lib.hid (hx_37.out.below (hb6) rfl)
  have tx_47 := Lib.hid (tx_38.out.below (hb6))
  have x8_48 := Lib.hid (x8_30.out.below (hb6))
  have hy_49 := Lib.hid t0_6
  have ty_50 := Lib.hid t1_6
  clear ha_31 hB_32 ir_33 xa_34 xb_35 B_36 hx_37 tx_38 x8_30 t0_6 t1_6 hb6 c0_39 c1_39 c2_39
  go_wp2_with (first | (refine wpList_store_whole rfl 24 _ _ rfl w6.heap.size [.int .i64 rb, .int .i64 cb, .slice (some ⟨g2, 0, none⟩) lb k2] zeroRow 24 rfl rfl (heap_alloc_new _ _) rfl (by kernel_rfl) (row3_ones _ _ _ _ _) ?_; intro w7 h7 k7 s7; have hs7 := after_box k7.out; have x9_51 : Hid (BX w6.heap.size rb cb (some ⟨g2, 0, none⟩) lb k2 w7) := Lib.hid ⟨h7.out⟩; have ha_52 := Lib.hid (ha_40.out.below (hs7) rfl); have hB_53 := Lib.hid (hB_41.out.below (hs7) rfl); have ir_54 := Lib.hid (ir_42.out.below (hs7)); have xa_55 := Lib.hid (xa_43.out.below (hs7)); have xb_56 := Lib.hid (xb_44.out.below (hs7)); have B_57 := Lib.hid (B_45.out.trans ((hs7).mono B_45.out.size)); have hx_58 := Lib.hid (hx_46.out.below (hs7) rfl); have tx_59 := Lib.hid (tx_47.out.below (hs7)); have x8_60 := Lib.hid (x8_48.out.below (hs7)); have hy_61 := Lib.hid (hy_49.out.below (hs7) rfl); have ty_62 := Lib.hid (ty_50.out.below (hs7)); clear ha_40 hB_41 ir_42 xa_43 xb_44 B_45 hx_46 tx_47 x8_48 hy_49 ty_50 hs7; go_frame) | (at_builtin; (refine wpList_clone_ints rfl (.const (.slice none 0 0)) (.tmp 56) rfl rfl _ _ _ f rfl ZS.out (by omega) ir_54.out ?_; intro s1 cap1 w8 is8 b8; have ha_63 := Lib.hid (ha_52.out.below (b8.out) rfl); have hB_64 := Lib.hid (hB_53.out.below (b8.out) rfl); have ir_65 := Lib.hid (ir_54.out.below (b8.out)); have xa_66 := Lib.hid (xa_55.out.below (b8.out)); have xb_67 := Lib.hid (xb_56.out.below (b8.out)); have B_68 := Lib.hid (B_57.out.trans ((b8.out).mono B_57.out.size)); have hx_69 := Lib.hid (hx_58.out.below (b8.out) rfl); have tx_70 := Lib.hid (tx_59.out.below (b8.out)); have x8_71 := Lib.hid (x8_60.out.below (b8.out)); have hy_72 := Lib.hid (hy_61.out.below (b8.out) rfl); have ty_73 := Lib.hid (ty_62.out.below (b8.out)); have x9_74 := Lib.hid (x9_51.out.below (b8.out)); obtain ⟨c0_75, c1_75, c2_75⟩ := heap_cell0 x8_71.out.box; obtain ⟨c0_76, c1_76, c2_76⟩ := heap_cell0 x9_74.out.box; clear ha_52 hB_53 ir_54 xa_55 xb_56 B_57 hx_58 tx_59 x8_60 hy_61 ty_62 x9_51; go_frame)))
  clear h7 k7 s7
  clear b8
  refine (HM.out.p _ _ _ _ _ hx_69.out hy_72.out).mono ?_
  rintro e w9 ⟨a11, k11, E12, rfl, t0_9, hb9⟩
  have ha_77 := Lib.hid (ha_63.out.below (hb9) rfl)
  have hB_78 := Lib.hid (hB_64.out.below (hb9) rfl)
  have ir_79 := Lib.hid (ir_65.out.below (hb9))
  have xa_80 := Lib.hid (xa_66.out.below (hb9))
  have xb_81 := Lib.hid (xb_67.out.below (hb9))
  have B_82 := Lib.hid (B_68.out.trans ((hb9).mono B_68.out.size))
  have hx_83 := Lib.hid (hx_69.out.below (hb9) rfl)
  have tx_84 := Lib.hid (tx_70.out.below (hb9))
  have x8_85 := Lib.hid (x8_71.out.below (hb9))
  have hy_86 := Lib.hid (hy_72.out.below (hb9) rfl)
  have ty_87 := Lib.hid (ty_73.out.below (hb9))
  have x9_88 := Lib.hid (x9_74.out.below (hb9))
  have is_89 := Lib.hid (is8.out.below (hb9))
  have o11_90 := Lib.hid t0_9
  clear ha_63 hB_64 ir_65 xa_66 xb_67 B_68 hx_69 tx_70 x8_71 hy_72 ty_73 x9_74 is8 t0_9 hb9 c0_75 c0_76 c1_75 c1_76 c2_75 c2_76
  go_wp2_with (refine wpList_store_whole rfl 24 _ _ rfl w9.heap.size [.int .i64 RM, .int .i64 CM, .slice a11 NM k11] zeroRow 24 rfl rfl (heap_alloc_new _ _) rfl (by kernel_rfl) (row3_ones _ _ _ _ _) ?_; intro w10 h10 k10 s10; have hs10 := after_box k10.out; have x11_91 : Hid (BX w9.heap.size RM CM a11 NM k11 w10) := Lib.hid ⟨h10.out⟩; have ha_92 := Lib.hid (ha_77.out.below (hs10) rfl); have hB_93 := Lib.hid (hB_78.out.below (hs10) rfl); have ir_94 := Lib.hid (ir_79.out.below (hs10)); have xa_95 := Lib.hid (xa_80.out.below (hs10)); have xb_96 := Lib.hid (xb_81.out.below (hs10)); have B_97 := Lib.hid (B_82.out.trans ((hs10).mono B_82.out.size)); have hx_98 := Lib.hid (hx_83.out.below (hs10) rfl); have tx_99 := Lib.hid (tx_84.out.below (hs10)); have x8_100 := Lib.hid (x8_85.out.below (hs10)); have hy_101 := Lib.hid (hy_86.out.below (hs10) rfl); have ty_102 := Lib.hid (ty_87.out.below (hs10)); have x9_103 := Lib.hid (x9_88.out.below (hs10)); have is_104 := Lib.hid (is_89.out.below (hs10)); have o11_105 := Lib.hid (o11_90.out.below (hs10)); obtain ⟨c0_106, c1_106, c2_106⟩ := heap_cell0 x8_100.out.box; clear ha_77 hB_78 ir_79 xa_80 xb_81 B_82 hx_83 tx_84 x8_85 hy_86 ty_87 x9_88 is_89 o11_90 hs10; go_frame)
  clear h10 k10 s10
  refine (HI.out.p _ _ _ hx_98.out).mono ?_
  rintro e w11 ⟨a13, k13, E14, rfl, t0_11, hb11⟩
  have ha_107 := Lib.hid (ha_92.out.below (hb11) rfl)
  have hB_108 := Lib.hid (hB_93.out.below (hb11) rfl)
  have ir_109 := Lib.hid (ir_94.out.below (hb11))
  have xa_110 := Lib.hid (xa_95.out.below (hb11))
  have xb_111 := Lib.hid (xb_96.out.below (hb11))
  have B_112 := Lib.hid (B_97.out.trans ((hb11).mono B_97.out.size))
  have hx_113 := Lib.hid (hx_98.out.below (hb11) rfl)
  have tx_114 := Lib.hid (tx_99.out.below (hb11))
  have x8_115 := Lib.hid (x8_100.out.below (hb11))
  have hy_116 := Lib.hid (hy_101.out.below (hb11) rfl)
  have ty_117 := Lib.hid (ty_102.out.below (hb11))
  have x9_118 := Lib.hid (x9_103.out.below (hb11))
  have is_119 := Lib.hid (is_104.out.below (hb11))
  have o11_120 := Lib.hid (o11_105.out.below (hb11))
  have x11_121 := Lib.hid (x11_91.out.below (hb11))
  have o13_122 := Lib.hid t0_11
  clear ha_92 hB_93 ir_94 xa_95 xb_96 B_97 hx_98 tx_99 x8_100 hy_101 ty_102 x9_103 is_104 o11_105 x11_91 t0_11 hb11 c0_106 c1_106 c2_106
  go_wp2_with (refine wpList_store_whole rfl 24 _ _ rfl w11.heap.size [.int .i64 RI, .int .i64 CI, .slice a13 NI k13] zeroRow 24 rfl rfl (heap_alloc_new _ _) rfl (by kernel_rfl) (row3_ones _ _ _ _ _) ?_; intro w12 h12 k12 s12; have hs12 := after_box k12.out; have x13_123 : Hid (BX w11.heap.size RI CI a13 NI k13 w12) := Lib.hid ⟨h12.out⟩; have ha_124 := Lib.hid (ha_107.out.below (hs12) rfl); have hB_125 := Lib.hid (hB_108.out.below (hs12) rfl); have ir_126 := Lib.hid (ir_109.out.below (hs12)); have xa_127 := Lib.hid (xa_110.out.below (hs12)); have xb_128 := Lib.hid (xb_111.out.below (hs12)); have B_129 := Lib.hid (B_112.out.trans ((hs12).mono B_112.out.size)); have hx_130 := Lib.hid (hx_113.out.below (hs12) rfl); have tx_131 := Lib.hid (tx_114.out.below (hs12)); have x8_132 := Lib.hid (x8_115.out.below (hs12)); have hy_133 := Lib.hid (hy_116.out.below (hs12) rfl); have ty_134 := Lib.hid (ty_117.out.below (hs12)); have x9_135 := Lib.hid (x9_118.out.below (hs12)); have is_136 := Lib.hid (is_119.out.below (hs12)); have o11_137 := Lib.hid (o11_120.out.below (hs12)); have x11_138 := Lib.hid (x11_121.out.below (hs12)); have o13_139 := Lib.hid (o13_122.out.below (hs12)); obtain ⟨c0_140, c1_140, c2_140⟩ := heap_cell0 x8_132.out.box; clear ha_107 hB_108 ir_109 xa_110 xb_111 B_112 hx_113 tx_114 x8_115 hy_116 ty_117 x9_118 is_119 o11_120 x11_121 o13_122 hs12; go_frame)
  clear h12 k12 s12
  refine (HR.out.p _ _ _ hx_130.out).mono ?_
  rintro e w13 ⟨E16, rfl, t0_13, hb13⟩
  have ha_141 := Lib.hid (ha_124.out.below (hb13) rfl)
  have hB_142 := Lib.hid (hB_125.out.below (hb13) rfl)
  have ir_143 := Lib.hid (ir_126.out.below (hb13))
  have xa_144 := Lib.hid (xa_127.out.below (hb13))
  have xb_145 := Lib.hid (xb_128.out.below (hb13))
  have B_146 := Lib.hid (B_129.out.trans ((hb13).mono B_129.out.size))
  have hx_147 := Lib.hid (hx_130.out.below (hb13) rfl)
  have tx_148 := Lib.hid (tx_131.out.below (hb13))
  have x8_149 := Lib.hid (x8_132.out.below (hb13))
  have hy_150 := Lib.hid (hy_133.out.below (hb13) rfl)
  have ty_151 := Lib.hid (ty_134.out.below (hb13))
  have x9_152 := Lib.hid (x9_135.out.below (hb13))
  have is_153 := Lib.hid (is_136.out.below (hb13))
  have o11_154 := Lib.hid (o11_137.out.below (hb13))
  have x11_155 := Lib.hid (x11_138.out.below (hb13))
  have o13_156 := Lib.hid (o13_139.out.below (hb13))
  have x13_157 := Lib.hid (x13_123.out.below (hb13))
  have o16_158 := Lib.hid t0_13
  clear ha_124 hB_125 ir_126 xa_127 xb_128 B_129 hx_130 tx_131 x8_132 hy_133 ty_134 x9_135 is_136 o11_137 x11_138 o13_139 x13_123 t0_13 hb13 c0_140 c1_140 c2_140
  have BP_0 : Hid (Below w13.heap.size w13 w13) := Lib.hid (Below.refl _ _)
  have Pxa := xa_144
  have Pxb := xb_145
  have Px8 := x8_149
  have Px9 := x9_152
  have Pha := ha_141
  have PhB := hB_142
  have Phx := hx_147
  have Phy := hy_150
  have Ptx := tx_148
  have Pty := ty_151
  have PB := B_146
  clear B_146 tx_148 ty_151
  obtain ⟨c0_159, c1_159, c2_159⟩ := heap_cell0 x8_149.out.box
  go_wp2_with fail
  refine (HP.out.p _ _ _ _ _ hx_147.out is_153.out).mono ?_
  rintro e w14 ⟨a17, k17, E18, rfl, t0_14, hb14⟩
  have ha_160 := Lib.hid (ha_141.out.below (hb14) rfl)
  have hB_161 := Lib.hid (hB_142.out.below (hb14) rfl)
  have ir_162 := Lib.hid (ir_143.out.below (hb14))
  have xa_163 := Lib.hid (xa_144.out.below (hb14))
  have xb_164 := Lib.hid (xb_145.out.below (hb14))
  have hx_165 := Lib.hid (hx_147.out.below (hb14) rfl)
  have x8_166 := Lib.hid (x8_149.out.below (hb14))
  have hy_167 := Lib.hid (hy_150.out.below (hb14) rfl)
  have x9_168 := Lib.hid (x9_152.out.below (hb14))
  have is_169 := Lib.hid (is_153.out.below (hb14))
  have o11_170 := Lib.hid (o11_154.out.below (hb14))
  have x11_171 := Lib.hid (x11_155.out.below (hb14))
  have o13_172 := Lib.hid (o13_156.out.below (hb14))
  have x13_173 := Lib.hid (x13_157.out.below (hb14))
  have o16_174 := Lib.hid (o16_158.out.below (hb14))
  have BP_175 := Lib.hid (BP_0.out.trans ((hb14).mono BP_0.out.size))
  have o17_176 := Lib.hid t0_14
  clear ha_141 hB_142 ir_143 xa_144 xb_145 hx_147 x8_149 hy_150 x9_152 is_153 o11_154 x11_155 o13_156 x13_157 o16_158 BP_0 t0_14 hb14 c0_159 c1_159 c2_159
  clear is_169
  go_wp2_with (refine wpList_store_whole rfl 24 _ _ rfl w14.heap.size [.int .i64 RP, .int .i64 CP, .slice a17 NP k17] zeroRow 24 rfl rfl (heap_alloc_new _ _) rfl (by kernel_rfl) (row3_ones _ _ _ _ _) ?_; intro w15 h15 k15 s15; have hs15 := after_box k15.out; have x17_177 : Hid (BX w14.heap.size RP CP a17 NP k17 w15) := Lib.hid ⟨h15.out⟩; have ha_178 := Lib.hid (ha_160.out.below (hs15) rfl); have hB_179 := Lib.hid (hB_161.out.below (hs15) rfl); have ir_180 := Lib.hid (ir_162.out.below (hs15)); have xa_181 := Lib.hid (xa_163.out.below (hs15)); have xb_182 := Lib.hid (xb_164.out.below (hs15)); have hx_183 := Lib.hid (hx_165.out.below (hs15) rfl); have x8_184 := Lib.hid (x8_166.out.below (hs15)); have hy_185 := Lib.hid (hy_167.out.below (hs15) rfl); have x9_186 := Lib.hid (x9_168.out.below (hs15)); have o11_187 := Lib.hid (o11_170.out.below (hs15)); have x11_188 := Lib.hid (x11_171.out.below (hs15)); have o13_189 := Lib.hid (o13_172.out.below (hs15)); have x13_190 := Lib.hid (x13_173.out.below (hs15)); have o16_191 := Lib.hid (o16_174.out.below (hs15)); have BP_192 := Lib.hid (BP_175.out.trans ((hs15).mono BP_175.out.size)); have o17_193 := Lib.hid (o17_176.out.below (hs15)); obtain ⟨c0_194, c1_194, c2_194⟩ := heap_cell0 x8_184.out.box; obtain ⟨c0_195, c1_195, c2_195⟩ := heap_cell0 x9_186.out.box; clear ha_160 hB_161 ir_162 xa_163 xb_164 hx_165 x8_166 hy_167 x9_168 o11_170 x11_171 o13_172 x13_173 o16_174 BP_175 o17_176 hs15; go_frame)
  clear h15 k15 s15
  have HPU : Hid (w13.heap.size ≤ w15.heap.size) := Lib.hid BP_192.out.size
  refine (HU.out.p _ _ _ _ _ hx_183.out hy_185.out).mono ?_
  rintro e w16 ⟨a19, k19, E20, rfl, t0_16, hb16⟩
  have ha_196 := Lib.hid (ha_178.out.below (hb16) rfl)
  have hB_197 := Lib.hid (hB_179.out.below (hb16) rfl)
  have ir_198 := Lib.hid (ir_180.out.below (hb16))
  have xa_199 := Lib.hid (xa_181.out.below (hb16))
  have xb_200 := Lib.hid (xb_182.out.below (hb16))
  have hx_201 := Lib.hid (hx_183.out.below (hb16) rfl)
  have x8_202 := Lib.hid (x8_184.out.below (hb16))
  have hy_203 := Lib.hid (hy_185.out.below (hb16) rfl)
  have x9_204 := Lib.hid (x9_186.out.below (hb16))
  have o11_205 := Lib.hid (o11_187.out.below (hb16))
  have x11_206 := Lib.hid (x11_188.out.below (hb16))
  have o13_207 := Lib.hid (o13_189.out.below (hb16))
  have x13_208 := Lib.hid (x13_190.out.below (hb16))
  have o16_209 := Lib.hid (o16_191.out.below (hb16))
  have BP_210 := Lib.hid (BP_192.out.trans ((hb16).mono BP_192.out.size))
  have o17_211 := Lib.hid (o17_193.out.below (hb16))
  have x17_212 := Lib.hid (x17_177.out.below (hb16))
  have o19_213 := Lib.hid t0_16
  clear ha_178 hB_179 ir_180 xa_181 xb_182 hx_183 x8_184 hy_185 x9_186 o11_187 x11_188 o13_189 x13_190 o16_191 BP_192 o17_193 x17_177 t0_16 hb16 c0_194 c0_195 c1_194 c1_195 c2_194 c2_195
  clear hx_201 hy_203 x8_202 x9_204
  go_wp2_with (refine wpList_store_whole rfl 24 _ _ rfl w16.heap.size [.int .i64 RU, .int .i64 CU, .slice a19 NU k19] zeroRow 24 rfl rfl (heap_alloc_new _ _) rfl (by kernel_rfl) (row3_ones _ _ _ _ _) ?_; intro w17 h17 k17 s17; have hs17 := after_box k17.out; have x19_214 : Hid (BX w16.heap.size RU CU a19 NU k19 w17) := Lib.hid ⟨h17.out⟩; have ha_215 := Lib.hid (ha_196.out.below (hs17) rfl); have hB_216 := Lib.hid (hB_197.out.below (hs17) rfl); have ir_217 := Lib.hid (ir_198.out.below (hs17)); have xa_218 := Lib.hid (xa_199.out.below (hs17)); have xb_219 := Lib.hid (xb_200.out.below (hs17)); have o11_220 := Lib.hid (o11_205.out.below (hs17)); have x11_221 := Lib.hid (x11_206.out.below (hs17)); have o13_222 := Lib.hid (o13_207.out.below (hs17)); have x13_223 := Lib.hid (x13_208.out.below (hs17)); have o16_224 := Lib.hid (o16_209.out.below (hs17)); have BP_225 := Lib.hid (BP_210.out.trans ((hs17).mono BP_210.out.size)); have o17_226 := Lib.hid (o17_211.out.below (hs17)); have x17_227 := Lib.hid (x17_212.out.below (hs17)); have o19_228 := Lib.hid (o19_213.out.below (hs17)); obtain ⟨c0_229, c1_229, c2_229⟩ := heap_cell0 xa_218.out.box; obtain ⟨c0_230, c1_230, c2_230⟩ := heap_cell0 xb_219.out.box; clear ha_196 hB_197 ir_198 xa_199 xb_200 o11_205 x11_206 o13_207 x13_208 o16_209 BP_210 o17_211 x17_212 o19_213 hs17; go_frame)
  clear h17 k17 s17
  refine (HM.out.q _ _ _ _ _ ha_215.out hB_216.out).mono ?_
  rintro e w18 ⟨a21, k21, rfl, t0_18, hb18⟩
  have ha_231 := Lib.hid (ha_215.out.below (hb18) rfl)
  have hB_232 := Lib.hid (hB_216.out.below (hb18) rfl)
  have ir_233 := Lib.hid (ir_217.out.below (hb18))
  have xa_234 := Lib.hid (xa_218.out.below (hb18))
  have xb_235 := Lib.hid (xb_219.out.below (hb18))
  have o11_236 := Lib.hid (o11_220.out.below (hb18))
  have x11_237 := Lib.hid (x11_221.out.below (hb18))
  have o13_238 := Lib.hid (o13_222.out.below (hb18))
  have x13_239 := Lib.hid (x13_223.out.below (hb18))
  have o16_240 := Lib.hid (o16_224.out.below (hb18))
  have BP_241 := Lib.hid (BP_225.out.trans ((hb18).mono BP_225.out.size))
  have o17_242 := Lib.hid (o17_226.out.below (hb18))
  have x17_243 := Lib.hid (x17_227.out.below (hb18))
  have o19_244 := Lib.hid (o19_228.out.below (hb18))
  have x19_245 := Lib.hid (x19_214.out.below (hb18))
  have h21_246 := Lib.hid t0_18
  clear ha_215 hB_216 ir_217 xa_218 xb_219 o11_220 x11_221 o13_222 x13_223 o16_224 BP_225 o17_226 x17_227 o19_228 x19_214 t0_18 hb18 c0_229 c0_230 c1_229 c1_230 c2_229 c2_230
  go_wp2_with (refine wpList_store_whole rfl 24 _ _ rfl w18.heap.size [.int .i64 RM, .int .i64 CM, .slice a21 NM k21] zeroRow 24 rfl rfl (heap_alloc_new _ _) rfl (by kernel_rfl) (row3_ones _ _ _ _ _) ?_; intro w19 h19 k19 s19; have hs19 := after_box k19.out; have x21_247 : Hid (BX w18.heap.size RM CM a21 NM k21 w19) := Lib.hid ⟨h19.out⟩; have ha_248 := Lib.hid (ha_231.out.below (hs19) rfl); have hB_249 := Lib.hid (hB_232.out.below (hs19) rfl); have ir_250 := Lib.hid (ir_233.out.below (hs19)); have xa_251 := Lib.hid (xa_234.out.below (hs19)); have xb_252 := Lib.hid (xb_235.out.below (hs19)); have o11_253 := Lib.hid (o11_236.out.below (hs19)); have x11_254 := Lib.hid (x11_237.out.below (hs19)); have o13_255 := Lib.hid (o13_238.out.below (hs19)); have x13_256 := Lib.hid (x13_239.out.below (hs19)); have o16_257 := Lib.hid (o16_240.out.below (hs19)); have BP_258 := Lib.hid (BP_241.out.trans ((hs19).mono BP_241.out.size)); have o17_259 := Lib.hid (o17_242.out.below (hs19)); have x17_260 := Lib.hid (x17_243.out.below (hs19)); have o19_261 := Lib.hid (o19_244.out.below (hs19)); have x19_262 := Lib.hid (x19_245.out.below (hs19)); have h21_263 := Lib.hid (h21_246.out.below (hs19) rfl); obtain ⟨c0_264, c1_264, c2_264⟩ := heap_cell0 xa_251.out.box; clear ha_231 hB_232 ir_233 xa_234 xb_235 o11_236 x11_237 o13_238 x13_239 o16_240 BP_241 o17_242 x17_243 o19_244 x19_245 h21_246 hs19; go_frame)
  clear h19 k19 s19
  refine (HI.out.q _ _ _ ha_248.out).mono ?_
  rintro e w20 ⟨a23, k23, rfl, t0_20, hb20⟩
  have ha_265 := Lib.hid (ha_248.out.below (hb20) rfl)
  have hB_266 := Lib.hid (hB_249.out.below (hb20) rfl)
  have ir_267 := Lib.hid (ir_250.out.below (hb20))
  have xa_268 := Lib.hid (xa_251.out.below (hb20))
  have xb_269 := Lib.hid (xb_252.out.below (hb20))
  have o11_270 := Lib.hid (o11_253.out.below (hb20))
  have x11_271 := Lib.hid (x11_254.out.below (hb20))
  have o13_272 := Lib.hid (o13_255.out.below (hb20))
  have x13_273 := Lib.hid (x13_256.out.below (hb20))
  have o16_274 := Lib.hid (o16_257.out.below (hb20))
  have BP_275 := Lib.hid (BP_258.out.trans ((hb20).mono BP_258.out.size))
  have o17_276 := Lib.hid (o17_259.out.below (hb20))
  have x17_277 := Lib.hid (x17_260.out.below (hb20))
  have o19_278 := Lib.hid (o19_261.out.below (hb20))
  have x19_279 := Lib.hid (x19_262.out.below (hb20))
  have h21_280 := Lib.hid (h21_263.out.below (hb20) rfl)
  have x21_281 := Lib.hid (x21_247.out.below (hb20))
  have h23_282 := Lib.hid t0_20
  clear ha_248 hB_249 ir_250 xa_251 xb_252 o11_253 x11_254 o13_255 x13_256 o16_257 BP_258 o17_259 x17_260 o19_261 x19_262 h21_263 x21_247 t0_20 hb20 c0_264 c1_264 c2_264
  go_wp2_with (refine wpList_store_whole rfl 24 _ _ rfl w20.heap.size [.int .i64 RI, .int .i64 CI, .slice a23 NI k23] zeroRow 24 rfl rfl (heap_alloc_new _ _) rfl (by kernel_rfl) (row3_ones _ _ _ _ _) ?_; intro w21 h21 k21 s21; have hs21 := after_box k21.out; have x23_283 : Hid (BX w20.heap.size RI CI a23 NI k23 w21) := Lib.hid ⟨h21.out⟩; have ha_284 := Lib.hid (ha_265.out.below (hs21) rfl); have hB_285 := Lib.hid (hB_266.out.below (hs21) rfl); have ir_286 := Lib.hid (ir_267.out.below (hs21)); have xa_287 := Lib.hid (xa_268.out.below (hs21)); have xb_288 := Lib.hid (xb_269.out.below (hs21)); have o11_289 := Lib.hid (o11_270.out.below (hs21)); have x11_290 := Lib.hid (x11_271.out.below (hs21)); have o13_291 := Lib.hid (o13_272.out.below (hs21)); have x13_292 := Lib.hid (x13_273.out.below (hs21)); have o16_293 := Lib.hid (o16_274.out.below (hs21)); have BP_294 := Lib.hid (BP_275.out.trans ((hs21).mono BP_275.out.size)); have o17_295 := Lib.hid (o17_276.out.below (hs21)); have x17_296 := Lib.hid (x17_277.out.below (hs21)); have o19_297 := Lib.hid (o19_278.out.below (hs21)); have x19_298 := Lib.hid (x19_279.out.below (hs21)); have h21_299 := Lib.hid (h21_280.out.below (hs21) rfl); have x21_300 := Lib.hid (x21_281.out.below (hs21)); have h23_301 := Lib.hid (h23_282.out.below (hs21) rfl); obtain ⟨c0_302, c1_302, c2_302⟩ := heap_cell0 xa_287.out.box; clear ha_265 hB_266 ir_267 xa_268 xb_269 o11_270 x11_271 o13_272 x13_273 o16_274 BP_275 o17_276 x17_277 o19_278 x19_279 h21_280 x21_281 h23_282 hs21; go_frame)
  clear h21 k21 s21
  refine (HR.out.q _ _ _ ha_284.out).mono ?_
  rintro e w22 ⟨rfl, hb22⟩
  have ha_303 := Lib.hid (ha_284.out.below (hb22) rfl)
  have hB_304 := Lib.hid (hB_285.out.below (hb22) rfl)
  have ir_305 := Lib.hid (ir_286.out.below (hb22))
  have xa_306 := Lib.hid (xa_287.out.below (hb22))
  have xb_307 := Lib.hid (xb_288.out.below (hb22))
  have o11_308 := Lib.hid (o11_289.out.below (hb22))
  have x11_309 := Lib.hid (x11_290.out.below (hb22))
  have o13_310 := Lib.hid (o13_291.out.below (hb22))
  have x13_311 := Lib.hid (x13_292.out.below (hb22))
  have o16_312 := Lib.hid (o16_293.out.below (hb22))
  have BP_313 := Lib.hid (BP_294.out.trans ((hb22).mono BP_294.out.size))
  have o17_314 := Lib.hid (o17_295.out.below (hb22))
  have x17_315 := Lib.hid (x17_296.out.below (hb22))
  have o19_316 := Lib.hid (o19_297.out.below (hb22))
  have x19_317 := Lib.hid (x19_298.out.below (hb22))
  have h21_318 := Lib.hid (h21_299.out.below (hb22) rfl)
  have x21_319 := Lib.hid (x21_300.out.below (hb22))
  have h23_320 := Lib.hid (h23_301.out.below (hb22) rfl)
  have x23_321 := Lib.hid (x23_283.out.below (hb22))
  clear ha_284 hB_285 ir_286 xa_287 xb_288 o11_289 x11_290 o13_291 x13_292 o16_293 BP_294 o17_295 x17_296 o19_297 x19_298 h21_299 x21_300 h23_301 x23_283 hb22 c0_302 c1_302 c2_302
  obtain ⟨c0_322, c1_322, c2_322⟩ := heap_cell0 xa_306.out.box
  go_wp2_with fail
  refine (HP.out.q _ _ _ _ _ ha_303.out ir_305.out).mono ?_
  rintro e w23 ⟨a27, k27, rfl, t0_23, hb23⟩
  have ha_323 := Lib.hid (ha_303.out.below (hb23) rfl)
  have hB_324 := Lib.hid (hB_304.out.below (hb23) rfl)
  have ir_325 := Lib.hid (ir_305.out.below (hb23))
  have xa_326 := Lib.hid (xa_306.out.below (hb23))
  have xb_327 := Lib.hid (xb_307.out.below (hb23))
  have o11_328 := Lib.hid (o11_308.out.below (hb23))
  have x11_329 := Lib.hid (x11_309.out.below (hb23))
  have o13_330 := Lib.hid (o13_310.out.below (hb23))
  have x13_331 := Lib.hid (x13_311.out.below (hb23))
  have o16_332 := Lib.hid (o16_312.out.below (hb23))
  have BP_333 := Lib.hid (BP_313.out.trans ((hb23).mono BP_313.out.size))
  have o17_334 := Lib.hid (o17_314.out.below (hb23))
  have x17_335 := Lib.hid (x17_315.out.below (hb23))
  have o19_336 := Lib.hid (o19_316.out.below (hb23))
  have x19_337 := Lib.hid (x19_317.out.below (hb23))
  have h21_338 := Lib.hid (h21_318.out.below (hb23) rfl)
  have x21_339 := Lib.hid (x21_319.out.below (hb23))
  have h23_340 := Lib.hid (h23_320.out.below (hb23) rfl)
  have x23_341 := Lib.hid (x23_321.out.below (hb23))
  have h27_342 := Lib.hid t0_23
  clear ha_303 hB_304 ir_305 xa_306 xb_307 o11_308 x11_309 o13_310 x13_311 o16_312 BP_313 o17_314 x17_315 o19_316 x19_317 h21_318 x21_319 h23_320 x23_321 t0_23 hb23 c0_322 c1_322 c2_322
  clear ir_325
  go_wp2_with (refine wpList_store_whole rfl 24 _ _ rfl w23.heap.size [.int .i64 RP, .int .i64 CP, .slice a27 NP k27] zeroRow 24 rfl rfl (heap_alloc_new _ _) rfl (by kernel_rfl) (row3_ones _ _ _ _ _) ?_; intro w24 h24 k24 s24; have hs24 := after_box k24.out; have x27_343 : Hid (BX w23.heap.size RP CP a27 NP k27 w24) := Lib.hid ⟨h24.out⟩; have ha_344 := Lib.hid (ha_323.out.below (hs24) rfl); have hB_345 := Lib.hid (hB_324.out.below (hs24) rfl); have xa_346 := Lib.hid (xa_326.out.below (hs24)); have xb_347 := Lib.hid (xb_327.out.below (hs24)); have o11_348 := Lib.hid (o11_328.out.below (hs24)); have x11_349 := Lib.hid (x11_329.out.below (hs24)); have o13_350 := Lib.hid (o13_330.out.below (hs24)); have x13_351 := Lib.hid (x13_331.out.below (hs24)); have o16_352 := Lib.hid (o16_332.out.below (hs24)); have BP_353 := Lib.hid (BP_333.out.trans ((hs24).mono BP_333.out.size)); have o17_354 := Lib.hid (o17_334.out.below (hs24)); have x17_355 := Lib.hid (x17_335.out.below (hs24)); have o19_356 := Lib.hid (o19_336.out.below (hs24)); have x19_357 := Lib.hid (x19_337.out.below (hs24)); have h21_358 := Lib.hid (h21_338.out.below (hs24) rfl); have x21_359 := Lib.hid (x21_339.out.below (hs24)); have h23_360 := Lib.hid (h23_340.out.below (hs24) rfl); have x23_361 := Lib.hid (x23_341.out.below (hs24)); have h27_362 := Lib.hid (h27_342.out.below (hs24) rfl); obtain ⟨c0_363, c1_363, c2_363⟩ := heap_cell0 xa_346.out.box; obtain ⟨c0_364, c1_364, c2_364⟩ := heap_cell0 xb_347.out.box; clear ha_323 hB_324 xa_326 xb_327 o11_328 x11_329 o13_330 x13_331 o16_332 BP_333 o17_334 x17_335 o19_336 x19_337 h21_338 x21_339 h23_340 x23_341 h27_342 hs24; go_frame)
  clear h24 k24 s24
  refine (HU.out.q _ _ _ _ _ ha_344.out hB_345.out).mono ?_
  rintro e w25 ⟨a29, k29, rfl, t0_25, hb25⟩
  have ha_365 := Lib.hid (ha_344.out.below (hb25) rfl)
  have hB_366 := Lib.hid (hB_345.out.below (hb25) rfl)
  have xa_367 := Lib.hid (xa_346.out.below (hb25))
  have xb_368 := Lib.hid (xb_347.out.below (hb25))
  have o11_369 := Lib.hid (o11_348.out.below (hb25))
  have x11_370 := Lib.hid (x11_349.out.below (hb25))
  have o13_371 := Lib.hid (o13_350.out.below (hb25))
  have x13_372 := Lib.hid (x13_351.out.below (hb25))
  have o16_373 := Lib.hid (o16_352.out.below (hb25))
  have BP_374 := Lib.hid (BP_353.out.trans ((hb25).mono BP_353.out.size))
  have o17_375 := Lib.hid (o17_354.out.below (hb25))
  have x17_376 := Lib.hid (x17_355.out.below (hb25))
  have o19_377 := Lib.hid (o19_356.out.below (hb25))
  have x19_378 := Lib.hid (x19_357.out.below (hb25))
  have h21_379 := Lib.hid (h21_358.out.below (hb25) rfl)
  have x21_380 := Lib.hid (x21_359.out.below (hb25))
  have h23_381 := Lib.hid (h23_360.out.below (hb25) rfl)
  have x23_382 := Lib.hid (x23_361.out.below (hb25))
  have h27_383 := Lib.hid (h27_362.out.below (hb25) rfl)
  have x27_384 := Lib.hid (x27_343.out.below (hb25))
  have h29_385 := Lib.hid t0_25
  clear ha_344 hB_345 xa_346 xb_347 o11_348 x11_349 o13_350 x13_351 o16_352 BP_353 o17_354 x17_355 o19_356 x19_357 h21_358 x21_359 h23_360 x23_361 h27_362 x27_343 t0_25 hb25 c0_363 c0_364 c1_363 c1_364 c2_363 c2_364
  clear ha_365 hB_366 xa_367 xb_368
  go_wp2_with (refine wpList_store_whole rfl 24 _ _ rfl w25.heap.size [.int .i64 RU, .int .i64 CU, .slice a29 NU k29] zeroRow 24 rfl rfl (heap_alloc_new _ _) rfl (by kernel_rfl) (row3_ones _ _ _ _ _) ?_; intro w26 h26 k26 s26; have hs26 := after_box k26.out; have x29_386 : Hid (BX w25.heap.size RU CU a29 NU k29 w26) := Lib.hid ⟨h26.out⟩; have o11_387 := Lib.hid (o11_369.out.below (hs26)); have x11_388 := Lib.hid (x11_370.out.below (hs26)); have o13_389 := Lib.hid (o13_371.out.below (hs26)); have x13_390 := Lib.hid (x13_372.out.below (hs26)); have o16_391 := Lib.hid (o16_373.out.below (hs26)); have BP_392 := Lib.hid (BP_374.out.trans ((hs26).mono BP_374.out.size)); have o17_393 := Lib.hid (o17_375.out.below (hs26)); have x17_394 := Lib.hid (x17_376.out.below (hs26)); have o19_395 := Lib.hid (o19_377.out.below (hs26)); have x19_396 := Lib.hid (x19_378.out.below (hs26)); have h21_397 := Lib.hid (h21_379.out.below (hs26) rfl); have x21_398 := Lib.hid (x21_380.out.below (hs26)); have h23_399 := Lib.hid (h23_381.out.below (hs26) rfl); have x23_400 := Lib.hid (x23_382.out.below (hs26)); have h27_401 := Lib.hid (h27_383.out.below (hs26) rfl); have x27_402 := Lib.hid (x27_384.out.below (hs26)); have h29_403 := Lib.hid (h29_385.out.below (hs26) rfl); obtain ⟨c0_404, c1_404, c2_404⟩ := heap_cell0 x11_388.out.box; obtain ⟨c0_405, c1_405, c2_405⟩ := heap_cell0 x21_398.out.box; clear o11_369 x11_370 o13_371 x13_372 o16_373 BP_374 o17_375 x17_376 o19_377 x19_378 h21_379 x21_380 h23_381 x23_382 h27_383 x27_384 h29_385 hs26; go_frame)
  clear h26 k26 s26
  refine (Same_any RM CM a11 a21 NM k11 k21 lM (by have := HM.out.n; omega) _ o11_387.out.h h21_397.out).mono ?_
  rintro e w27 ⟨rfl, hb27⟩
  have o11_406 := Lib.hid (o11_387.out.below (hb27))
  have x11_407 := Lib.hid (x11_388.out.below (hb27))
  have o13_408 := Lib.hid (o13_389.out.below (hb27))
  have x13_409 := Lib.hid (x13_390.out.below (hb27))
  have o16_410 := Lib.hid (o16_391.out.below (hb27))
  have BP_411 := Lib.hid (BP_392.out.trans ((hb27).mono BP_392.out.size))
  have o17_412 := Lib.hid (o17_393.out.below (hb27))
  have x17_413 := Lib.hid (x17_394.out.below (hb27))
  have o19_414 := Lib.hid (o19_395.out.below (hb27))
  have x19_415 := Lib.hid (x19_396.out.below (hb27))
  have h21_416 := Lib.hid (h21_397.out.below (hb27) rfl)
  have x21_417 := Lib.hid (x21_398.out.below (hb27))
  have h23_418 := Lib.hid (h23_399.out.below (hb27) rfl)
  have x23_419 := Lib.hid (x23_400.out.below (hb27))
  have h27_420 := Lib.hid (h27_401.out.below (hb27) rfl)
  have x27_421 := Lib.hid (x27_402.out.below (hb27))
  have h29_422 := Lib.hid (h29_403.out.below (hb27) rfl)
  have x29_423 := Lib.hid (x29_386.out.below (hb27))
  clear o11_387 x11_388 o13_389 x13_390 o16_391 BP_392 o17_393 x17_394 o19_395 x19_396 h21_397 x21_398 h23_399 x23_400 h27_401 x27_402 h29_403 x29_386 hb27 c0_404 c0_405 c1_404 c1_405 c2_404 c2_405
  go_wp2_with fail
  refine (is_err o11_406.out.err).mono ?_
  rintro e w' ⟨rfl, rfl⟩
  clear h21_416 o11_406 x11_407 x21_417
  obtain ⟨c0_424, c1_424, c2_424⟩ := heap_cell0 x13_409.out.box
  obtain ⟨c0_425, c1_425, c2_425⟩ := heap_cell0 x23_419.out.box
  go_wp2_with fail
  refine (Same_any RI CI a13 a23 NI k13 k23 lI (by have := HI.out.n; omega) _ o13_408.out.h h23_418.out).mono ?_
  rintro e w28 ⟨rfl, hb28⟩
  have o13_426 := Lib.hid (o13_408.out.below (hb28))
  have x13_427 := Lib.hid (x13_409.out.below (hb28))
  have o16_428 := Lib.hid (o16_410.out.below (hb28))
  have BP_429 := Lib.hid (BP_411.out.trans ((hb28).mono BP_411.out.size))
  have o17_430 := Lib.hid (o17_412.out.below (hb28))
  have x17_431 := Lib.hid (x17_413.out.below (hb28))
  have o19_432 := Lib.hid (o19_414.out.below (hb28))
  have x19_433 := Lib.hid (x19_415.out.below (hb28))
  have h23_434 := Lib.hid (h23_418.out.below (hb28) rfl)
  have x23_435 := Lib.hid (x23_419.out.below (hb28))
  have h27_436 := Lib.hid (h27_420.out.below (hb28) rfl)
  have x27_437 := Lib.hid (x27_421.out.below (hb28))
  have h29_438 := Lib.hid (h29_422.out.below (hb28) rfl)
  have x29_439 := Lib.hid (x29_423.out.below (hb28))
  clear o13_408 x13_409 o16_410 BP_411 o17_412 x17_413 o19_414 x19_415 h23_418 x23_419 h27_420 x27_421 h29_422 x29_423 hb28 c0_424 c0_425 c1_424 c1_425 c2_424 c2_425
  go_wp2_with fail
  refine (is_err o13_426.out.err).mono ?_
  rintro e w' ⟨rfl, rfl⟩
  clear h23_434 o13_426 x13_427 x23_435
  go_wp2_with fail
  refine (is_err o16_428.out).mono ?_
  rintro e w' ⟨rfl, rfl⟩
  clear o16_428
  obtain ⟨c0_440, c1_440, c2_440⟩ := heap_cell0 x17_431.out.box
  obtain ⟨c0_441, c1_441, c2_441⟩ := heap_cell0 x27_437.out.box
  go_wp2_with fail
  refine (Same_any RP CP a17 a27 NP k17 k27 lP (by have := HP.out.n; omega) _ o17_430.out.h h27_436.out).mono ?_
  rintro e w29 ⟨rfl, hb29⟩
  have BP_442 := Lib.hid (BP_429.out.trans ((hb29).mono BP_429.out.size))
  have o17_443 := Lib.hid (o17_430.out.below (hb29))
  have x17_444 := Lib.hid (x17_431.out.below (hb29))
  have o19_445 := Lib.hid (o19_432.out.below (hb29))
  have x19_446 := Lib.hid (x19_433.out.below (hb29))
  have h27_447 := Lib.hid (h27_436.out.below (hb29) rfl)
  have x27_448 := Lib.hid (x27_437.out.below (hb29))
  have h29_449 := Lib.hid (h29_438.out.below (hb29) rfl)
  have x29_450 := Lib.hid (x29_439.out.below (hb29))
  clear BP_429 o17_430 x17_431 o19_432 x19_433 h27_436 x27_437 h29_438 x29_439 hb29 c0_440 c0_441 c1_440 c1_441 c2_440 c2_441
  go_wp2_with fail
  refine (is_err o17_443.out.err).mono ?_
  rintro e w' ⟨rfl, rfl⟩
  clear h27_447 x27_448
  obtain ⟨c0_451, c1_451, c2_451⟩ := heap_cell0 x19_446.out.box
  obtain ⟨c0_452, c1_452, c2_452⟩ := heap_cell0 x29_450.out.box
  go_wp2_with fail
  refine (Same_any RU CU a19 a29 NU k19 k29 lU (by have := HU.out.n; omega) _ o19_445.out.h h29_449.out).mono ?_
  rintro e w30 ⟨rfl, hb30⟩
  have BP_453 := Lib.hid (BP_442.out.trans ((hb30).mono BP_442.out.size))
  have o17_454 := Lib.hid (o17_443.out.below (hb30))
  have x17_455 := Lib.hid (x17_444.out.below (hb30))
  have o19_456 := Lib.hid (o19_445.out.below (hb30))
  have x19_457 := Lib.hid (x19_446.out.below (hb30))
  have h29_458 := Lib.hid (h29_449.out.below (hb30) rfl)
  have x29_459 := Lib.hid (x29_450.out.below (hb30))
  clear BP_442 o17_443 x17_444 o19_445 x19_446 h29_449 x29_450 hb30 c0_451 c0_452 c1_451 c1_452 c2_451 c2_452
  go_wp2_with fail
  refine (is_err o19_456.out.err).mono ?_
  rintro e w' ⟨rfl, rfl⟩
  clear h29_458 x29_459
  go_wp2_with fail
  obtain ⟨gq, hgq⟩ := o17_454.out.cells
  obtain ⟨gu, hgu⟩ := o19_456.out.cells
  have L0 : Hid (Lp w13 gq NP w14.heap.size RP CP a17 k17 gu NU w16.heap.size RU CU a19 k19 w30) := Lib.hid ⟨BP_453.out, x17_455.out, x19_457.out, hgq, fun h => by
    obtain ⟨h1, h2, h3⟩ := hgu h
    exact ⟨h1, by have := HPU.out; omega, h3⟩⟩
  have hNP := HP.out.n
  have hNU := HU.out.n
  obtain ⟨bq, hbq⟩ : ∃ b, b = w14.heap.size := ⟨_, rfl⟩
  obtain ⟨bu, hbu⟩ : ∃ b, b = w16.heap.size := ⟨_, rfl⟩
  rw [← hbq, ← hbu] at L0
  rw [← hbq, ← hbu]
  clear BP_453 o17_454 x17_455 o19_456 x19_457 hbq hbu hgq hgu HPU
  go_loopw [36] (fun iv wr => ∃ q : Nat, q ≤ NP ∧ iv = .int .i64 q ∧ Lp w13 gq NP bq RP CP a17 k17 gu NU bu RU CU a19 k19 wr) (fun iv _ => NP - (intOf iv).toNat)
  case atStart => exact ⟨0, by omega, rfl, L0.out⟩
  case round =>
    clear L0
    obtain ⟨q, hq, rfl, hL⟩ := hrel
    have L1 := Lib.hid hL
    clear hL
    have d2 := (heap_cell0 L1.out.bxq.box).2.2
    by_cases hlt : q < NP
    · obtain ⟨rfl, _, hcap, l, hl, hB⟩ := L1.out.cq (by omega)
      obtain ⟨y, c0⟩ := blk_cell hB (show q < l.length by omega)
      have ff := free_of_list hB q
      have HB := Lib.hid hB
      clear hB hl
      go_wp2_with fail
      go_roundw
      case rel => exact ⟨q + 1, by omega, by go_num, L1.out.set (by omega) q⟩
      case measure => simp [intOf]; omega
    · obtain rfl : q = NP := by omega
      clear hlt hq
      go_wp2_with fail
      rename_i w1
      have L2 := Lib.hid L1.out.swap
      clear L1 d2
      go_loopw [37] (fun iv wr => ∃ q2 : Nat, q2 ≤ NU ∧ iv = .int .i64 q2 ∧ Lp w13 gu NU bu RU CU a19 k19 gq q bq RP CP a17 k17 wr) (fun iv _ => NU - (intOf iv).toNat)
      case atStart => exact ⟨0, by omega, rfl, L2.out⟩
      case round =>
        clear L2
        obtain ⟨p, hp, rfl, hL⟩ := hrel
        have L3 := Lib.hid hL
        clear hL
        have u2 := (heap_cell0 L3.out.bxq.box).2.2
        by_cases hlt : p < NU
        · obtain ⟨rfl, _, hcap, l, hl, hB⟩ := L3.out.cq (by omega)
          obtain ⟨y, c0⟩ := blk_cell hB (show p < l.length by omega)
          have ff := free_of_list hB p
          have HB := Lib.hid hB
          clear hB hl
          go_wp2_with fail
          go_roundw
          case rel => exact ⟨p + 1, by omega, by go_num, L3.out.set (by omega) p⟩
          case measure => simp [intOf]; omega
        · obtain rfl : p = NU := by omega
          clear hlt hp
          have LO := Lib.hid L3.out.old
          clear L3
          obtain ⟨e0, e1, e2⟩ := heap_cell0 (Px8.out.below LO.out).box
          obtain ⟨d0, d1, d2⟩ := heap_cell0 (Pxa.out.below LO.out).box
          go_wp2_with fail
          refine (kept_any ra ca g1 la k1 a0 capa lA hla (Ptx.out.room) _ (Phx.out.below LO.out rfl) (Pha.out.below LO.out rfl) (Ptx.out.below LO.out).lt (Ptx.out.below LO.out).at_).mono ?_
          rintro e wk ⟨rfl, hbk⟩
          have LK := Lib.hid (LO.out.trans (hbk.mono LO.out.size))
          clear LO hbk u2 e0 e1 e2 d0 d1 d2
          obtain ⟨e0, e1, e2⟩ := heap_cell0 (Px9.out.below LK.out).box
          obtain ⟨d0, d1, d2⟩ := heap_cell0 (Pxb.out.below LK.out).box
          go_wp2_with fail
          refine (kept_any rb cb g2 lb k2 b0 capb lB hlb (Pty.out.room) _ (Phy.out.below LK.out rfl) (PhB.out.below LK.out rfl) (Pty.out.below LK.out).lt (Pty.out.below LK.out).at_).mono ?_
          rintro e wl ⟨rfl, hbl⟩
          have LL := Lib.hid (LK.out.trans (hbl.mono LK.out.size))
          clear LK hbl e0 e1 e2 d0 d1 d2
          go_wp2_with fail
          go_ret
          exact ⟨rfl, PB.out.trans (LL.out.mono PB.out.size)⟩
theorem Reckons_walk (ra ca : Int) (a0 : Option Addr) (la capa : Nat) (lA : List UInt8) (rb cb : Int) (b0 : Option Addr) (lb capb : Nat) (lB : List UInt8) (s0 : Option Addr) (nr capr : Nat) (f : Nat → Int) (za : a0 = none → capa = 0) (zb : b0 = none → capb = 0) (zs : s0 = none → capr = 0) (w : World) (hA0 : Hand a0 la capa lA w) (hB0 : Hand b0 lb capb lB w) (hs0 : IX s0 nr f w) :
    Calls Try.prog 4 #[.agg #[.int .i64 ra, .int .i64 ca, .slice a0 la capa], .agg #[.int .i64 rb, .int .i64 cb, .slice b0 lb capb], .slice s0 nr capr] w fun e w' => e = .returned (.bool true) ∧ Below w.heap.size w w' := by
  by_cases hA : wideB ra ca la = true
  · exact Reckons_w1 ra ca a0 la capa rb cb b0 lb capb s0 nr capr hA w
  have hA : wideB ra ca la = false := by simpa using hA
  by_cases hB : wideB rb cb lb = true
  · exact Reckons_w2 ra ca a0 la capa rb cb b0 lb capb s0 nr capr hA hB w
  have hB : wideB rb cb lb = false := by simpa using hB
  by_cases hn : nr ≤ 300
  · obtain ⟨c1, RM, CM, NM, lM, hM⟩ := mul_sides ra ca la lA rb cb lb lB
    obtain ⟨c2, RI, CI, NI, lI, hI⟩ := invert_sides ra ca la lA
    obtain ⟨c3, K, hR⟩ := rank_sides ra ca la lA
    obtain ⟨c4, RP, CP, NP, lP, hP⟩ := pick_sides ra ca la lA nr f
    obtain ⟨c5, RU, CU, NU, lU, hU⟩ := under_sides ra ca la lA rb cb lb lB
    exact Reckons_go ra ca a0 la capa lA rb cb b0 lb capb lB s0 nr capr f c1 RM CM NM lM hM c2 RI CI NI lI hI c3 K hR c4 RP CP NP lP hP c5 RU CU NU lU hU hA hB hn za zb zs w hA0 hB0 hs0
  · exact Reckons_w3 ra ca a0 la capa rb cb b0 lb capb s0 nr capr hA hB (decide_eq_true (by omega)) w
end Go.Proofs.Ytnaeekjocaecmaa

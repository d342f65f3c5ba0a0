/- The chapter's examples. -/
import Derived.Test.YtnaeekjocaecmaaMSame
import Derived.Test.YtnaeekjocaecmaaMInv2
namespace Go.Proofs.Ytnaeekjocaecmaa
open Go.RowKit

/-- A block of cells that a list makes. -/
theorem lit_src {w : World} {b : Nat} {l : List UInt8} {T : TypeId} (r c : Nat) (hl : l.length = r * c) (h : w.heap[b]? = some (.cells (l.map u8v).toArray T (0, 0))) : Src b 0 (matOf c l) r c w := by
  unfold Src
  rw [flat_matOf r c l hl]; exact range_of_list h
theorem lit_hand {w : World} {b n : Nat} {l : List UInt8} {T : TypeId} (hl : l.length = n) (h : w.heap[b]? = some (.cells (l.map u8v).toArray T (0, 0))) : Hand (some ⟨b, 0, none⟩) n n l w :=
  ⟨hl, Nat.le_refl _, fun _ => ⟨b, 0, rfl, lt_of_heap h, range_of_list h⟩⟩
theorem kIdent (w : World) : Calls Try.prog 10 #[.int .i64 2] w fun e w' => ∃ g, e = .returned (.tuple #[.agg #[.int .i64 2, .int .i64 2, .slice (some ⟨g, 0, none⟩) 4 4], .nilIface]) ∧ Hand (some ⟨g, 0, none⟩) 4 4 [1, 0, 0, 1] w' ∧ Below w.heap.size w w' := by
  refine (Identity_good 2 (by decide +kernel) (by decide) w).mono ?_
  rintro e w' ⟨V, E, rfl, hP, hb⟩
  rcases hP with ⟨_, rfl, g, N, rfl, _, rfl, hT⟩ | ⟨h, _⟩
  · refine ⟨g, rfl, ?_, hb⟩
    have := hT.hand rfl
    rw [show flat dl 2 2 = [1, 0, 0, 1] by decide +kernel] at this; exact this
  · exact absurd rfl h
theorem kCau (w : World) : Calls Try.prog 11 #[.int .i64 1, .int .i64 2] w fun e w' => ∃ g, e = .returned (.tuple #[.agg #[.int .i64 1, .int .i64 2, .slice (some ⟨g, 0, none⟩) 2 2], .nilIface]) ∧ Hand (some ⟨g, 0, none⟩) 2 2 [142, 244] w' ∧ Below w.heap.size w w' := by
  refine (Cauchy_good 1 2 (by decide +kernel) (by decide +kernel) (by decide) w).mono ?_
  rintro e w' ⟨V, E, rfl, hP, hb⟩
  rcases hP with ⟨_, rfl, g, N, rfl, _, rfl, hT⟩ | ⟨h, _⟩
  · refine ⟨g, rfl, ?_, hb⟩
    have := hT.hand rfl
    rw [show flat (cauM 2) 1 2 = [142, 244] by decide +kernel] at this; exact this
  · exact absurd rfl h
theorem kMul (b1 b2 : Nat) (T1 T2 : TypeId) (w : World) (h1 : w.heap[b1]? = some (.cells (([1, 2, 3, 4] : List UInt8).map u8v).toArray T1 (0, 0))) (h2 : w.heap[b2]? = some (.cells (([1, 1] : List UInt8).map u8v).toArray T2 (0, 0))) :
    Calls Try.prog 21 #[.agg #[.int .i64 2, .int .i64 2, .slice (some ⟨b1, 0, none⟩) 4 4], .agg #[.int .i64 2, .int .i64 1, .slice (some ⟨b2, 0, none⟩) 2 2]] w fun e w' => ∃ g, e = .returned (.tuple #[.agg #[.int .i64 2, .int .i64 1, .slice (some ⟨g, 0, none⟩) 2 2], .nilIface]) ∧ Hand (some ⟨g, 0, none⟩) 2 2 [3, 7] w' ∧ Below w.heap.size w w' := by
  refine (Mul_good 2 2 1 b1 0 4 4 b2 0 2 2 (matOf 2 [1, 2, 3, 4]) (matOf 1 [1, 1]) (by decide) (by decide) (by decide) (by decide) (by decide) (by decide) rfl rfl (by decide) (by decide) w (lit_src 2 2 rfl h1) (lt_of_heap h1) (lit_src 2 1 rfl h2) (lt_of_heap h2)).mono ?_
  rintro e w' ⟨V, E, rfl, hP, hb⟩
  rcases hP with ⟨_, rfl, g, N, rfl, _, rfl, hT⟩ | ⟨h, _⟩
  · refine ⟨g, rfl, ?_, hb⟩
    have := hT.hand rfl
    rw [show flat (mm 2 (matOf 2 [1, 2, 3, 4]) (matOf 1 [1, 1])) 2 1 = [3, 7] by decide +kernel] at this; exact this
  · exact absurd rfl h
theorem kInvert (b1 : Nat) (T1 : TypeId) (w : World) (h1 : w.heap[b1]? = some (.cells (([1, 2, 2, 4] : List UInt8).map u8v).toArray T1 (0, 0))) :
    Calls Try.prog 22 #[.agg #[.int .i64 2, .int .i64 2, .slice (some ⟨b1, 0, none⟩) 4 4]] w fun e w' => ∃ g, e = .returned (.tuple #[noneV, faultV g]) ∧ FaultAt g 18 0 w' ∧ Below w.heap.size w w' := by
  refine (Invert_sq 2 b1 0 4 4 (matOf 2 [1, 2, 2, 4]) (by decide) (by decide) rfl (by decide) (by decide) w (lit_src 2 2 rfl h1) (lt_of_heap h1)).mono ?_
  rintro e w' ⟨V, E, rfl, hP, hb⟩
  rcases hP with ⟨h, _⟩ | ⟨_, hP⟩
  · exact absurd h (by decide +kernel)
  · rcases hP with ⟨h, _⟩ | ⟨_, _, _, rfl, g, _, rfl, hF⟩
    · exact absurd h (by decide)
    · exact ⟨g, rfl, hF, hb⟩
theorem kRank (b1 : Nat) (T1 : TypeId) (w : World) (h1 : w.heap[b1]? = some (.cells (([1, 2, 2, 4] : List UInt8).map u8v).toArray T1 (0, 0))) :
    Calls Try.prog 23 #[.agg #[.int .i64 2, .int .i64 2, .slice (some ⟨b1, 0, none⟩) 4 4]] w fun e w' => e = .returned (.tuple #[.int .i64 1, .nilIface]) ∧ Below w.heap.size w w' := by
  have h := Rank_good 2 2 b1 0 4 4 (matOf 2 [1, 2, 2, 4]) (by decide) (by decide) (by decide) (by decide) rfl (by decide) (by decide) w (lit_src 2 2 rfl h1) (lt_of_heap h1)
  rw [show rk 2 2 (matOf 2 [1, 2, 2, 4]) = 1 by decide +kernel] at h
  exact h
theorem kApply (b1 b2 : Nat) (T1 T2 : TypeId) (w : World) (h1 : w.heap[b1]? = some (.cells (([1, 2] : List UInt8).map u8v).toArray T1 (0, 0))) (h2 : w.heap[b2]? = some (.cells [Value.string ⟨#[5]⟩, Value.string ⟨#[3]⟩].toArray T2 (0, 0))) :
    Calls Try.prog 31 #[.agg #[.int .i64 1, .int .i64 2, .slice (some ⟨b1, 0, none⟩) 2 2], .slice (some ⟨b2, 0, none⟩) 2 2] w fun e w' => ∃ h, e = .returned (.tuple #[.slice (some ⟨h, 0, none⟩) 1 1, .nilIface]) ∧ w'.cell? ⟨h, 0, none⟩ = some (.string ⟨#[3]⟩) ∧ w.heap.size ≤ h ∧ h < w'.heap.size ∧ Below w.heap.size w w' := by
  obtain ⟨f, hf⟩ : ∃ f : Nat → ByteArray, f = fun j => if j = 0 then ⟨#[5]⟩ else ⟨#[3]⟩ := ⟨_, rfl⟩
  have hT : Texts b2 0 2 f w := fun j hj => by
    rw [Nat.zero_add, cell_of_list h2, hf]
    rcases Nat.lt_or_ge j 1 with h | h
    · obtain rfl : j = 0 := by omega
      rfl
    · obtain rfl : j = 1 := by omega
      rfl
  refine (Apply_good 1 2 b1 0 2 2 b2 0 2 1 (matOf 2 [1, 2]) f (by decide) (by decide) (by decide) (by decide) rfl (by decide) (by decide) (fun j _ => by rw [hf]; show (if j = 0 then _ else _ : ByteArray).size = 1; split <;> rfl) w (lit_src 1 2 rfl h1) (lt_of_heap h1) hT (lt_of_heap h2)).mono ?_
  rintro e w' ⟨h, hh, rfl, hs, hb⟩
  refine ⟨h, rfl, ?_, hh, hs.lt, hb⟩
  rw [hs.got (k := 0) (by decide) (by decide), hf]
  congr 2
  decide +kernel
/-- A box with a matrix of so many cells. -/
def BoxA (B : Nat) (r c : Int) (g n : Nat) (l : List UInt8) (w : World) : Prop := w.heap[B]? = some (.cells [Value.int .i64 r, .int .i64 c, .slice (some ⟨g, 0, none⟩) n n].toArray 24 (0, 0)) ∧ Hand (some ⟨g, 0, none⟩) n n l w
theorem BoxA.below {B : Nat} {r c : Int} {g n : Nat} {l : List UInt8} {w w' : World} (h : BoxA B r c g n l w) (hb : Below w.heap.size w w') : BoxA B r c g n l w' := ⟨(hb.block B (lt_of_heap h.1)).trans h.1, h.2.below hb rfl⟩
theorem BoxA.of {r c : Int} {g n : Nat} {l : List UInt8} {w1 w2 : World} {o : Obj} (h2 : w2.heap[w1.heap.size]? = some (.cells [Value.int .i64 r, .int .i64 c, .slice (some ⟨g, 0, none⟩) n n].toArray 24 (0, 0))) (k2 : Kept (w1.alloc o).heap.size [w1.heap.size] (w1.alloc o) w2) (h : Hand (some ⟨g, 0, none⟩) n n l w1) : BoxA w1.heap.size r c g n l w2 ∧ Below w1.heap.size w1 w2 := by
  have hb : Below w1.heap.size w1 w2 := below_kept ((Below.refl _ _).alloc (Nat.le_refl _) _) k2 (Nat.le_refl _) (by simp)
  exact ⟨⟨h2, h.below hb rfl⟩, hb⟩
theorem mat_ones (r c : Int) (g n : Nat) : ∀ v ∈ [Value.int .i64 r, .int .i64 c, .slice (some ⟨g, 0, none⟩) n n], v.oneCell' = true := fun v hv => by simp at hv; rcases hv with rfl | rfl | rfl <;> rfl
/-- A block of bytes that was written out. -/
def Lit (b : Nat) (l : List UInt8) (w : World) : Prop := w.heap[b]? = some (.cells (l.map u8v).toArray 5 (0, 0))
theorem Lit.below {b : Nat} {l : List UInt8} {w w' : World} (h : Lit b l w) (hb : Below w.heap.size w w') : Lit b l w' := (hb.block b (lt_of_heap h)).trans h
theorem Lit.new (l : List UInt8) (w : World) : Lit w.heap.size l (w.alloc (.cells (l.map u8v).toArray 5)) := heap_alloc_new _ _
theorem below_alloc (w : World) (o : Obj) : Below w.heap.size w (w.alloc o) := (Below.refl _ _).alloc (Nat.le_refl _) _
/-- 'of' behind a literal. -/
theorem of_lit (r c : Int) (l : List UInt8) (n : Nat) (w : World) : Calls Try.prog 35 #[.int .i64 r, .int .i64 c, .slice (some ⟨w.heap.size, 0, none⟩) n n] (w.alloc (.cells (l.map u8v).toArray 5)) fun e w' => e = .returned (.agg #[.int .i64 r, .int .i64 c, .slice (some ⟨w.heap.size, 0, none⟩) n n]) ∧ Lit w.heap.size l w' ∧ Below w.heap.size w w' :=
  (of_any r c _ n n _).mono fun _ w' ⟨he, hb⟩ => ⟨he, (Lit.new l w).below hb, (below_alloc w _).trans (hb.mono (by simp))⟩
/-- What stands while answers are asked. -/
structure KSt (w0 : World) (t1 g1 t2 g2 t3 g3 g4 h : Nat) (v : World) : Prop where
  y : BoxA t1 2 2 g1 4 [1, 0, 0, 1] v
  z : BoxA t2 1 2 g2 2 [142, 244] v
  x : BoxA t3 2 1 g3 2 [3, 7] v
  f : FaultAt g4 18 0 v
  c : v.cell? ⟨h, 0, none⟩ = some (.string ⟨#[3]⟩)
  hl : h < v.heap.size
  old : Below w0.heap.size w0 v
theorem KSt.below {w0 : World} {t1 g1 t2 g2 t3 g3 g4 h : Nat} {v v' : World} (k : KSt w0 t1 g1 t2 g2 t3 g3 g4 h v) (hb : Below v.heap.size v v') : KSt w0 t1 g1 t2 g2 t3 g3 g4 h v' :=
  ⟨k.y.below hb, k.z.below hb, k.x.below hb, k.f.keep (hb.block g4 k.f.lt), (hb.cell (p := ⟨h, 0, none⟩) k.hl).trans k.c, Nat.lt_of_lt_of_le k.hl hb.size, k.old.trans (hb.mono k.old.size)⟩
theorem KSt.drew {w0 : World} {t1 g1 t2 g2 t3 g3 g4 h : Nat} {v : World} (k : KSt w0 t1 g1 t2 g2 t3 g3 g4 h v) : KSt w0 t1 g1 t2 g2 t3 g3 g4 h v.drew := k.below (Below.refl _ _).drew
theorem kst_of {w0 : World} {t1 g1 t2 g2 t3 g3 g4 h : Nat} {v : World} (k : KSt w0 t1 g1 t2 g2 t3 g3 g4 h v) (r c : Int) (l : List UInt8) (n : Nat) : Calls Try.prog 35 #[.int .i64 r, .int .i64 c, .slice (some ⟨v.heap.size, 0, none⟩) n n] (v.alloc (.cells (l.map u8v).toArray 5)) fun e w' => e = .returned (.agg #[.int .i64 r, .int .i64 c, .slice (some ⟨v.heap.size, 0, none⟩) n n]) ∧ Lit v.heap.size l w' ∧ KSt w0 t1 g1 t2 g2 t3 g3 g4 h w' :=
  (of_lit r c l n v).mono fun _ _ ⟨he, hl, hb⟩ => ⟨he, hl, k.below hb⟩
theorem kst_same {w0 : World} {t1 g1 t2 g2 t3 g3 g4 h : Nat} {v : World} (k : KSt w0 t1 g1 t2 g2 t3 g3 g4 h v) (r c : Int) (a1 : Option Addr) (b n : Nat) (l : List UInt8) (hn : n ≤ 1000000) (hln : l.length = n) (h1 : Hand a1 n n l v) (h2 : Lit b l v) : Calls Try.prog 15 #[.agg #[.int .i64 r, .int .i64 c, .slice a1 n n], .agg #[.int .i64 r, .int .i64 c, .slice (some ⟨b, 0, none⟩) n n]] v fun e w' => e = .returned (.bool true) ∧ KSt w0 t1 g1 t2 g2 t3 g3 g4 h w' :=
  (Same_any r c a1 (some ⟨b, 0, none⟩) n n n l hn v h1 (lit_hand hln h2)).mono fun _ _ ⟨he, hb⟩ => ⟨he, k.below hb⟩
set_option maxRecDepth 20000 in
set_option maxHeartbeats 4000000 in
theorem known_any (w : World) : Calls Try.prog 9 #[] w fun e w' => e = .returned (.bool true) ∧ Below w.heap.size w w' := by
  go_enter Try.func9, Try.ntmps9
  go_wp2_with fail
  refine (kIdent _).mono ?_
  rintro e w1 ⟨g1, rfl, hH1, hb1⟩
  have B1 := Lib.hid hb1
  have H1 := Lib.hid hH1
  clear hb1 hH1
  go_wp2_with (refine wpList_store_whole rfl 24 _ _ rfl w1.heap.size [.int .i64 2, .int .i64 2, .slice (some ⟨g1, 0, none⟩) 4 4] zeroRow 24 rfl rfl (heap_alloc_new _ _) rfl (by kernel_rfl) (mat_ones _ _ _ _) ?_; intro w2 h2 k2 s2; go_frame)
  have X1 := BoxA.of h2.out k2.out H1.out
  have B2 := Lib.hid (B1.out.trans (X1.2.mono B1.out.size))
  obtain ⟨t1, ht1⟩ : ∃ t, t = w1.heap.size := ⟨_, rfl⟩
  rw [← ht1]
  have X2 := Lib.hid (ht1 ▸ X1.1)
  clear h2 k2 s2 X1 H1 B1 ht1
  refine (kCau _).mono ?_
  rintro e w3 ⟨g2, rfl, hH2, hb3⟩
  have B3 := Lib.hid (B2.out.trans (hb3.mono B2.out.size))
  have X3 := Lib.hid (X2.out.below hb3)
  have H2 := Lib.hid hH2
  clear hb3 hH2 X2 B2
  go_wp2_with (refine wpList_store_whole rfl 24 _ _ rfl w3.heap.size [.int .i64 1, .int .i64 2, .slice (some ⟨g2, 0, none⟩) 2 2] zeroRow 24 rfl rfl (heap_alloc_new _ _) rfl (by kernel_rfl) (mat_ones _ _ _ _) ?_; intro w4 h4 k4 s4; go_frame)
  have X4 := BoxA.of h4.out k4.out H2.out
  have B4 := Lib.hid (B3.out.trans (X4.2.mono B3.out.size))
  have Y4 := Lib.hid (X3.out.below X4.2)
  obtain ⟨t2, ht2⟩ : ∃ t, t = w3.heap.size := ⟨_, rfl⟩
  rw [← ht2]
  have Z4 := Lib.hid (ht2 ▸ X4.1)
  clear h4 k4 s4 X4 H2 B3 X3 ht2
  refine (of_lit 2 2 [1, 2, 3, 4] 4 w4).mono ?_
  rintro e w5 ⟨rfl, hl5, hb5⟩
  obtain ⟨b5, hb5e⟩ : ∃ b, b = w4.heap.size := ⟨_, rfl⟩
  rw [← hb5e] at hl5 ⊢
  have L5 := Lib.hid hl5
  have B5 := Lib.hid (B4.out.trans (hb5.mono B4.out.size))
  have Y5 := Lib.hid (Y4.out.below hb5)
  have Z5 := Lib.hid (Z4.out.below hb5)
  clear hl5 hb5 hb5e Y4 Z4 B4
  go_wp2_with fail
  refine (of_lit 2 1 [1, 1] 2 w5).mono ?_
  rintro e w6 ⟨rfl, hl6, hb6⟩
  obtain ⟨b6, hb6e⟩ : ∃ b, b = w5.heap.size := ⟨_, rfl⟩
  rw [← hb6e] at hl6 ⊢
  have L6 := Lib.hid (And.intro (L5.out.below hb6) hl6)
  have B6 := Lib.hid (B5.out.trans (hb6.mono B5.out.size))
  have Y6 := Lib.hid (Y5.out.below hb6)
  have Z6 := Lib.hid (Z5.out.below hb6)
  clear hl6 hb6 hb6e Y5 Z5 B5 L5
  go_wp2_with fail
  refine (kMul b5 b6 5 5 _ L6.out.1 L6.out.2).mono ?_
  rintro e w7 ⟨g3, rfl, hH7, hb7⟩
  have B7 := Lib.hid (B6.out.trans (hb7.mono B6.out.size))
  have Y7 := Lib.hid (Y6.out.below hb7)
  have Z7 := Lib.hid (Z6.out.below hb7)
  have H7 := Lib.hid hH7
  clear hb7 hH7 Y6 Z6 L6 B6
  go_wp2_with (refine wpList_store_whole rfl 24 _ _ rfl w7.heap.size [.int .i64 2, .int .i64 1, .slice (some ⟨g3, 0, none⟩) 2 2] zeroRow 24 rfl rfl (heap_alloc_new _ _) rfl (by kernel_rfl) (mat_ones _ _ _ _) ?_; intro w8 h8 k8 s8; go_frame)
  have X8 := BoxA.of h8.out k8.out H7.out
  have B8 := Lib.hid (B7.out.trans (X8.2.mono B7.out.size))
  have Y8 := Lib.hid (Y7.out.below X8.2)
  have Z8 := Lib.hid (Z7.out.below X8.2)
  obtain ⟨t3, ht3⟩ : ∃ t, t = w7.heap.size := ⟨_, rfl⟩
  rw [← ht3]
  have X8 := Lib.hid (ht3 ▸ X8.1)
  clear h8 k8 s8 H7 B7 Y7 Z7 ht3
  refine (of_lit 2 2 [1, 2, 2, 4] 4 w8).mono ?_
  rintro e w9 ⟨rfl, hl9, hb9⟩
  obtain ⟨b9, hb9e⟩ : ∃ b, b = w8.heap.size := ⟨_, rfl⟩
  rw [← hb9e] at hl9 ⊢
  have L9 := Lib.hid hl9
  have B9 := Lib.hid (B8.out.trans (hb9.mono B8.out.size))
  have Y9 := Lib.hid (Y8.out.below hb9)
  have Z9 := Lib.hid (Z8.out.below hb9)
  have X9 := Lib.hid (X8.out.below hb9)
  clear hl9 hb9 hb9e Y8 Z8 B8 X8
  go_wp2_with fail
  refine (kInvert b9 5 _ L9.out).mono ?_
  rintro e w10 ⟨g4, rfl, hF10, hb10⟩
  have F10 := Lib.hid hF10
  have B10 := Lib.hid (B9.out.trans (hb10.mono B9.out.size))
  have Y10 := Lib.hid (Y9.out.below hb10)
  have Z10 := Lib.hid (Z9.out.below hb10)
  have X10 := Lib.hid (X9.out.below hb10)
  clear hb10 hF10 L9 Y9 Z9 X9 B9
  unfold noneV faultV
  go_wp2_with (refine wpList_store_whole rfl 24 _ _ rfl w10.heap.size zeroRow zeroRow 24 rfl rfl (heap_alloc_new _ _) rfl (by kernel_rfl) (by decide) ?_; intro w11 h11 k11 s11; go_frame)
  have hb11 : Below w10.heap.size w10 w11 := below_kept (below_alloc _ _) k11.out (Nat.le_refl _) (by simp)
  have F11 : Hid (FaultAt g4 18 0 w11) := Lib.hid (F10.out.keep (hb11.block g4 F10.out.lt))
  have B11 := Lib.hid (B10.out.trans (hb11.mono B10.out.size))
  have Y11 := Lib.hid (Y10.out.below hb11)
  have Z11 := Lib.hid (Z10.out.below hb11)
  have X11 := Lib.hid (X10.out.below hb11)
  clear h11 k11 s11 hb11 F10 B10 Y10 Z10 X10
  refine (of_lit 2 2 [1, 2, 2, 4] 4 w11).mono ?_
  rintro e w12 ⟨rfl, hl12, hb12⟩
  obtain ⟨b12, hb12e⟩ : ∃ b, b = w11.heap.size := ⟨_, rfl⟩
  rw [← hb12e] at hl12 ⊢
  have L12 := Lib.hid hl12
  have F12 : Hid (FaultAt g4 18 0 w12) := Lib.hid (F11.out.keep (hb12.block g4 F11.out.lt))
  have B12 := Lib.hid (B11.out.trans (hb12.mono B11.out.size))
  have Y12 := Lib.hid (Y11.out.below hb12)
  have Z12 := Lib.hid (Z11.out.below hb12)
  have X12 := Lib.hid (X11.out.below hb12)
  clear hl12 hb12 hb12e F11 Y11 Z11 B11 X11
  go_wp2_with fail
  refine (kRank b12 5 _ L12.out).mono ?_
  rintro e w13 ⟨rfl, hb13⟩
  have F13 : Hid (FaultAt g4 18 0 w13) := Lib.hid (F12.out.keep (hb13.block g4 F12.out.lt))
  have B13 := Lib.hid (B12.out.trans (hb13.mono B12.out.size))
  have Y13 := Lib.hid (Y12.out.below hb13)
  have Z13 := Lib.hid (Z12.out.below hb13)
  have X13 := Lib.hid (X12.out.below hb13)
  clear hb13 F12 Y12 Z12 B12 X12 L12
  go_wp2_with fail
  refine (of_lit 1 2 [1, 2] 2 w13).mono ?_
  rintro e w14 ⟨rfl, hl14, hb14⟩
  obtain ⟨b14, hb14e⟩ : ∃ b, b = w13.heap.size := ⟨_, rfl⟩
  rw [← hb14e] at hl14 ⊢
  have L14 := Lib.hid hl14
  have F14 : Hid (FaultAt g4 18 0 w14) := Lib.hid (F13.out.keep (hb14.block g4 F13.out.lt))
  have B14 := Lib.hid (B13.out.trans (hb14.mono B13.out.size))
  have Y14 := Lib.hid (Y13.out.below hb14)
  have Z14 := Lib.hid (Z13.out.below hb14)
  have X14 := Lib.hid (X13.out.below hb14)
  clear hl14 hb14 hb14e F13 Y13 Z13 B13 X13
  go_wp2_with fail
  refine (kApply b14 w14.heap.size 5 9 _ (L14.out.below (below_alloc _ _)) (heap_alloc_new _ _)).mono ?_
  rintro e w15 ⟨h15, rfl, hc15, _, hl15, hb15'⟩
  have hb15 := (below_alloc w14 _).trans (hb15'.mono (by simp))
  have K15 : Hid (KSt w t1 g1 t2 g2 t3 g3 g4 h15 w15) := Lib.hid ⟨Y14.out.below hb15, Z14.out.below hb15, X14.out.below hb15, F14.out.keep (hb15.block g4 F14.out.lt), hc15, hl15, B14.out.trans (hb15.mono B14.out.size)⟩
  clear hc15 hl15 hb15' hb15 L14 F14 B14 Y14 Z14 X14
  go_wp2_with fail
  have S15 := heap_cell0 K15.out.y.1
  go_region_held3 (fun v => v.cell? ⟨t1, 0, none⟩ = some (.int .i64 2) ∧ v.cell? ⟨t1, 1, none⟩ = some (.int .i64 2) ∧ v.cell? ⟨t1, 2, none⟩ = some (.slice (some ⟨g1, 0, none⟩) 4 4)) (first | exact S15 | exact heap_cell0 ((K15.out.drew.below (below_alloc _ _)).y.1) | exact S16 | exact S17) (first | (go_at_call 35; refine (kst_of K15.out.drew 2 2 [1, 0, 0, 1] 4).mono ?_; rintro e w16 ⟨rfl, hl, hk⟩; have L16 := Lib.hid hl; have K16 := Lib.hid hk; have S16 := heap_cell0 K16.out.y.1; clear hl hk) | (go_at_call 15; refine (kst_same K16.out 2 2 (some ⟨g1, 0, none⟩) _ 4 [1, 0, 0, 1] (by decide) rfl K16.out.y.2 L16.out).mono ?_; rintro e w17 ⟨rfl, hk⟩; have K17 := Lib.hid hk; have S17 := heap_cell0 K17.out.y.1; clear hk) | fail)
  clear S15 S16 S17 K15 K16 L16
  go_wp2_with fail
  have S17 := heap_cell0 K17.out.z.1
  go_region_held3 (fun v => v.cell? ⟨t2, 0, none⟩ = some (.int .i64 1) ∧ v.cell? ⟨t2, 1, none⟩ = some (.int .i64 2) ∧ v.cell? ⟨t2, 2, none⟩ = some (.slice (some ⟨g2, 0, none⟩) 2 2)) (first | exact S17 | exact heap_cell0 ((K17.out.drew.below (below_alloc _ _)).z.1) | exact S18 | exact S19) (first | (go_at_call 35; refine (kst_of K17.out.drew 1 2 [142, 244] 2).mono ?_; rintro e w18 ⟨rfl, hl, hk⟩; have L18 := Lib.hid hl; have K18 := Lib.hid hk; have S18 := heap_cell0 K18.out.z.1; clear hl hk) | (go_at_call 15; refine (kst_same K18.out 1 2 (some ⟨g2, 0, none⟩) _ 2 [142, 244] (by decide) rfl K18.out.z.2 L18.out).mono ?_; rintro e w19 ⟨rfl, hk⟩; have K19 := Lib.hid hk; have S19 := heap_cell0 K19.out.z.1; clear hk) | fail)
  clear S17 S18 S19 K17 K18 L18
  go_wp2_with fail
  have S19 := heap_cell0 K19.out.x.1
  go_region_held3 (fun v => v.cell? ⟨t3, 0, none⟩ = some (.int .i64 2) ∧ v.cell? ⟨t3, 1, none⟩ = some (.int .i64 1) ∧ v.cell? ⟨t3, 2, none⟩ = some (.slice (some ⟨g3, 0, none⟩) 2 2)) (first | exact S19 | exact heap_cell0 ((K19.out.drew.below (below_alloc _ _)).x.1) | exact S20 | exact S21) (first | (go_at_call 35; refine (kst_of K19.out.drew 2 1 [3, 7] 2).mono ?_; rintro e w20 ⟨rfl, hl, hk⟩; have L20 := Lib.hid hl; have K20 := Lib.hid hk; have S20 := heap_cell0 K20.out.x.1; clear hl hk) | (go_at_call 15; refine (kst_same K20.out 2 1 (some ⟨g3, 0, none⟩) _ 2 [3, 7] (by decide) rfl K20.out.x.2 L20.out).mono ?_; rintro e w21 ⟨rfl, hk⟩; have K21 := Lib.hid hk; have S21 := heap_cell0 K21.out.x.1; clear hk) | fail)
  clear S19 S20 S21 K19 K20 L20
  go_wp2_with fail
  refine (is_fault g4 18 (by decide) _ K21.out.f).mono ?_
  rintro e w' ⟨rfl, rfl⟩
  have hc := K21.out.c
  go_wp2_with fail
  go_ret
  exact ⟨rfl, K21.out.old⟩
end Go.Proofs.Ytnaeekjocaecmaa

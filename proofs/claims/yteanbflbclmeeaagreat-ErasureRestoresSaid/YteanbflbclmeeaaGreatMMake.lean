/- The walks of tables that are made: Identity, one table laid into another one. -/
import Derived.Test.YteanbflbclmeeaaGreatMRed
namespace Go.Proofs.YteanbflbclmeeaaGreat
open Go.RowKit

def identTo (i : Nat) : Mat := fun a b => if a = b ∧ a < i then 1 else 0
theorem identTo_zero : identTo 0 = zeroM := by funext a b; unfold identTo; rw [if_neg (by omega)]
theorem identTo_step (i : Nat) : setM i i 1 (identTo i) = identTo (i + 1) := by
  funext a b
  unfold setM identTo
  by_cases h : a = i ∧ b = i
  · rw [if_pos h, if_pos (by omega)]
  · rw [if_neg h]
    by_cases h2 : a = b ∧ a < i
    · rw [if_pos h2, if_pos (by omega)]
    · rw [if_neg h2, if_neg (by omega)]
theorem identTo_all (n c : Nat) : Alike n c (identTo n) dl := fun a b ha _ => by
  unfold identTo dl
  by_cases h : a = b
  · rw [if_pos ⟨h, ha⟩, if_pos h]
  · rw [if_neg (fun h2 => h h2.1), if_neg h]
/-- A block for what is answered. -/
def ResAt (R : Nat) (T : TypeId) (w : World) : Prop := w.heap[R]? = some (.cells zeroRow.toArray T (0, 0))
theorem ResAt.below {R : Nat} {T : TypeId} {B : Nat} {w w' : World} (h : ResAt R T w) (hb : Below B w w') (hR : R < B) : ResAt R T w' := (hb.block R hR).trans h
theorem ResAt.lt {R : Nat} {T : TypeId} {w : World} (h : ResAt R T w) : R < w.heap.size := lt_of_heap h
theorem ResAt.kept {R g : Nat} {T : TypeId} {w w' : World} (h : ResAt R T w) (hk : Kept w.heap.size [g] w w') (hR : R ≠ g) : ResAt R T w' := (hk.block R h.lt (by simp; exact hR)).trans h
set_option maxRecDepth 20000 in
set_option maxHeartbeats 1000000 in
theorem ident_any (n N : Nat) (hN : n * n = N) (hn : n ≤ 1000) (w : World) :
    Calls Tryz.prog 64 #[.int .i64 n] w fun e w' => ∃ g, w.heap.size ≤ g ∧ e = .returned (tabV g n n N) ∧ Tab g dl n n w' ∧ Below w.heap.size w w' := by
  have hmax : N ≤ 1000000 := by rw [← hN]; exact Nat.mul_le_mul hn hn
  have HN := Lib.hid hN
  clear hN
  go_enter Tryz.func64, Tryz.ntmps64
  go_wp2_with fail
  refine (blank_any n n N HN.out hmax _).mono ?_
  rintro e w1 ⟨g, hg, rfl, hT, hb⟩
  have hR : ResAt w.heap.size 104 w1 := (hb.block _ (by simp)).trans (heap_alloc_new _ _)
  have hb1 : Below w.heap.size w w1 := ((Below.refl _ _).alloc (Nat.le_refl _) _).trans (hb.mono (by simp))
  have hg1 : w.heap.size < g := by simp at hg; omega
  have HT := Lib.hid hT
  have HR := Lib.hid hR
  have HB := Lib.hid hb1
  clear hT hR hb hb1 hg
  unfold tabV
  go_wp2_with (refine wpList_store_whole rfl 104 _ _ rfl w1.heap.size (tabRow g n n N) zeroRow 104 rfl rfl (heap_alloc_new _ _) rfl (by kernel_rfl) (tabRow_ones _ _ _ _) ?_; intro w2 h2 k2 s2; go_frame)
  have hB2 : Below w1.heap.size w1 w2 := below_kept ((Below.refl _ _).alloc (Nat.le_refl _) _) k2.out (Nat.le_refl _) (by simp)
  have HB2 : Hid (BoxS w1.heap.size g n n N (identTo 0) w w2) := Lib.hid ⟨h2.out, by rw [identTo_zero]; exact HT.out.below hB2 HT.out.lt, Kept.of_below (HB.out.trans (hB2.mono HB.out.size)), by have := HT.out.lt; omega⟩
  have HR2 : Hid (ResAt w.heap.size 104 w2) := Lib.hid (HR.out.below hB2 HR.out.lt)
  obtain ⟨b, hbe⟩ : ∃ b, b = w1.heap.size := ⟨_, rfl⟩
  rw [← hbe] at HB2 ⊢
  clear h2 k2 s2 hB2 HT HR HB hbe
  go_loopw [9] (fun iv wr => ∃ i : Nat, i ≤ n ∧ iv = .int .i64 i ∧ (BoxS b g n n N (identTo i) w wr ∧ ResAt w.heap.size 104 wr)) (fun iv _ => n - (intOf iv).toNat)
  case atStart => exact ⟨0, by omega, rfl, HB2.out, HR2.out⟩
  case round =>
    clear HB2 HR2
    obtain ⟨i, hi, rfl, hB⟩ := hrel
    have d0 := hB.1.c0
    have d1 := hB.1.c1
    have d2 := hB.1.c2
    have H1 := Lib.hid hB
    clear hB
    by_cases hlt : i < n
    · obtain ⟨A, hA⟩ : ∃ A, i * n = A := ⟨_, rfl⟩
      have fA := row_fits HN.out hA hlt
      have HA := Lib.hid hA
      clear hA
      go_wp2_with fail
      refine (trow_any g n n N i A HA.out fA hmax (by omega) _).mono ?_
      rintro e w3 ⟨rfl, hb3⟩
      have H3 := Lib.hid (And.intro (H1.out.1.below hb3) (H1.out.2.below hb3 H1.out.2.lt))
      have hcell : ∃ x, w3.cell? ⟨g, A + i, none⟩ = some x := by
        have := H3.out.1.tab.src.cell hlt hlt
        rw [Nat.zero_add, HA.out] at this; exact ⟨_, this⟩
      obtain ⟨x, hcell⟩ := hcell
      have hfree := free_of_list H3.out.1.tab (A + i)
      have HX : Hid (BoxS b g n n N (identTo (i + 1)) w (w3.setCell ⟨g, A + i, none⟩ (.int .u8 1))) := Lib.hid (by
        have := H3.out.1.set hlt hlt 1
        rw [HA.out, identTo_step] at this; exact this)
      have HY : Hid (ResAt w.heap.size 104 (w3.setCell ⟨g, A + i, none⟩ (.int .u8 1))) := Lib.hid (H3.out.2.kept (g := g) ((Kept.refl _ _ _).setCell (p := ⟨g, A + i, none⟩) (by simp) _) (by omega))
      clear d0 d1 d2 hb3
      go_wp2_with fail
      go_roundw
      case rel => exact ⟨i + 1, by omega, by go_num, HX.out, HY.out⟩
      case measure => simp [intOf]; omega
    · obtain rfl : i = n := by omega
      go_wp2_with (refine wpList_store_whole rfl 104 _ _ rfl w.heap.size (tabRow g i i N) zeroRow 104 rfl rfl H1.out.2 rfl (by kernel_rfl) (tabRow_ones _ _ _ _) ?_; intro w4 h4 k4 s4; go_frame)
      refine bodyPost_ret (results_mid Tryz.results64 _ _ w.heap.size 0 (tabRow g i i N) _ rfl (range_of_list h4.out) Tryz.underlying104 rfl (by kernel_rfl)) rfl ⟨g, by omega, rfl, ?_, ?_⟩
      · exact (H1.out.1.tab.alike (identTo_all _ _)).keep (k4.out.block _ H1.out.1.tab.lt (by simp; omega))
      · have : Below w.heap.size w wr := H1.out.1.old.below (by simp; omega)
        exact below_kept this k4.out (Nat.le_refl _) this.size
end Go.Proofs.YteanbflbclmeeaaGreat

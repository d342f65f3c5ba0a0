/- The walks of the field's tables: the powers of 2, the products with a number; logs. -/
import Derived.Test.YteghbjcahggkeaaGRef3
import Derived.Test.YteghbjcahggkeaaDLaws
namespace Go.Proofs.Yteghbjcahggkeaa
open Go.RowKit

theorem tm_two (a : UInt8) : tm a 2 = dbl a := by
  rw [tm_eq]
  exact eq_of_beq (all_u8 (fun a => tmF 8 0 a 2 == dbl a) (by decide +kernel) a)
theorem dbl_E (n : Nat) : dbl (E n) = E (n + 1) := by rw [← tm_two, E_succ]
/-- The first i of n numbers of a row; 0 behind them. -/
@[irreducible] def rowTo (f : Nat → UInt8) (n i : Nat) : List Value := (List.range n).map fun k => if k < i then u8v (f k) else .int .u8 0
theorem length_rowTo (f : Nat → UInt8) (n i : Nat) : (rowTo f n i).length = n := by unfold rowTo; simp
theorem rowTo_get (f : Nat → UInt8) (n i k : Nat) (hk : k < n) : (rowTo f n i)[k]? = some (if k < i then u8v (f k) else .int .u8 0) := by
  unfold rowTo
  rw [List.getElem?_map, List.getElem?_range hk]; rfl
theorem rowTo_got (f : Nat → UInt8) (n i k : Nat) (hi : i ≤ n) (hk : k < i) : (rowTo f n i)[k]? = some (u8v (f k)) := by
  rw [rowTo_get f n i k (by omega), if_pos hk]
theorem rowTo_zero (f : Nat → UInt8) (n : Nat) : rowTo f n 0 = List.replicate n (.int .u8 0) := by
  unfold rowTo
  apply List.ext_getElem?
  intro k
  by_cases hk : k < n
  · simp [hk]
  · simp [hk]
theorem rowTo_step (f : Nat → UInt8) (n i : Nat) (x : UInt8) (hx : f i = x) : (rowTo f n i).set i (u8v x) = rowTo f n (i + 1) := by
  apply List.ext_getElem?
  intro k
  by_cases hk : k < n
  · rw [rowTo_get f n (i + 1) k hk]
    by_cases hki : k = i
    · subst hki
      rw [List.getElem?_set_self (by rw [length_rowTo]; exact hk), if_pos (by omega), hx]
    · rw [List.getElem?_set_ne (by omega), rowTo_get f n i k hk]
      by_cases h : k < i
      · rw [if_pos h, if_pos (by omega)]
      · rw [if_neg h, if_neg (by omega)]
  · rw [List.getElem?_eq_none (by rw [List.length_set, length_rowTo]; omega), List.getElem?_eq_none (by rw [length_rowTo]; omega)]
theorem rowTo_ones (f : Nat → UInt8) (n i : Nat) : ∀ v ∈ rowTo f n i, v.oneCell' = true := by
  intro v hv
  unfold rowTo at hv
  obtain ⟨k, _, rfl⟩ := List.mem_map.1 hv
  split <;> rfl
theorem alloc255 (w : World) : (Instr.alloc 38 true (.tuple #[])).run Try.prog w = .ok (.pointer (some ⟨w.heap.size, 0, none⟩)) (w.alloc (.cells (List.replicate 255 (Value.int .u8 0)).toArray 38)) := by kernel_rfl
theorem alloc256 (w : World) : (Instr.alloc 42 true (.tuple #[])).run Try.prog w = .ok (.pointer (some ⟨w.heap.size, 0, none⟩)) (w.alloc (.cells (List.replicate 256 (Value.int .u8 0)).toArray 42)) := by kernel_rfl
@[irreducible] def powRow : List Value := rowTo E 255 255
theorem row_step {f : Nat → UInt8} {n i : Nat} {x : UInt8} {w w0 : World} {b B : Nat} {T : TypeId} (hx : f i = x) (hT : w.heap[b]? = some (.cells (rowTo f n i).toArray T (0, 0))) (hB : Below B w0 w) (hb : B ≤ b) :
    (w.setCell ⟨b, i, none⟩ (.int .u8 x.toNat)).heap[b]? = some (.cells (rowTo f n (i + 1)).toArray T (0, 0)) ∧ Below B w0 (w.setCell ⟨b, i, none⟩ (.int .u8 x.toNat)) :=
  ⟨by rw [set_list hT, show Value.int .u8 x.toNat = u8v x from rfl, rowTo_step f n i x hx], hB.setCell (p := ⟨b, i, none⟩) hb _⟩
set_option maxRecDepth 20000 in
set_option maxHeartbeats 1000000 in
theorem powers_any (w : World) : Calls Try.prog 22 #[] w fun e w' => e = .returned (.agg powRow.toArray) ∧ Below w.heap.size w w' := by
  have hlen : (rowTo E 255 255).length = 255 := length_rowTo _ _ _
  have HLEN := Lib.hid hlen
  clear hlen
  go_enter Try.func22, Try.ntmps22
  go_wp2_with (first | (refine wpList_alloc rfl 38 rfl (List.replicate 255 (.int .u8 0)) alloc255 ?_; go_frame))
  simp only [World.size_alloc]
  obtain ⟨w2, hw2⟩ : ∃ x, x = (w.alloc (.cells (List.replicate 255 (Value.int .u8 0)).toArray 38)).alloc (.cells (List.replicate 255 (Value.int .u8 0)).toArray 38) := ⟨_, rfl⟩
  rw [← hw2]
  have h1 : w2.heap[w.heap.size]? = some (.cells (rowTo E 255 0).toArray 38 (0, 0)) := by rw [hw2, rowTo_zero]; exact heap_alloc2_old _ _ _
  have h2 : w2.heap[w.heap.size + 1]? = some (.cells (rowTo E 255 0).toArray 38 (0, 0)) := by rw [hw2, rowTo_zero]; exact heap_alloc2_new _ _ _
  have hb : Below w.heap.size w w2 := by rw [hw2]; exact ((Below.refl _ _).alloc (Nat.le_refl _) _).alloc (by simp) _
  clear hw2
  go_loopw [2, 4] (fun p iv wr => ∃ i : Nat, i ≤ 255 ∧ iv = .int .i64 i ∧ p = .int .u8 (E i).toNat ∧ wr.heap[w.heap.size]? = some (.cells (rowTo E 255 0).toArray 38 (0, 0)) ∧ wr.heap[w.heap.size + 1]? = some (.cells (rowTo E 255 i).toArray 38 (0, 0)) ∧ Below w.heap.size w wr) (fun _ iv _ => 255 - (intOf iv).toNat)
  case atStart => exact ⟨0, by omega, rfl, by rw [E_zero]; rfl, h1, h2, hb⟩
  case round =>
    clear h1 h2 hb
    obtain ⟨i, hi, rfl, rfl, hI, hO, hB⟩ := hrel
    by_cases hlt : i < 255
    · have co : wr.cell? ⟨w.heap.size + 1, i, none⟩ = some (.int .u8 0) := by rw [cell_of_list hO, rowTo_get E 255 i i hlt, if_neg (by omega)]
      have fo := free_of_list hO i
      have HI := Lib.hid hI
      have HO := Lib.hid hO
      have HB := Lib.hid hB
      have HD := Lib.hid (dbl_E i)
      clear hI hO hB
      go_wp2_with fail
      with_reducible refine (doubled_any _ _).mono ?_
      rintro e w' ⟨rfl, rfl⟩
      go_wp2_with fail
      go_roundw
      case rel => exact ⟨i + 1, by omega, by go_num, by rw [HD.out], by rw [heap_setCell_other _ _ _ _ (by simp)]; exact HI.out, (row_step rfl HO.out HB.out (by simp)).1, (row_step rfl HO.out HB.out (by simp)).2⟩
      case measure => simp [intOf]; omega
    · obtain rfl : i = 255 := by omega
      have HB := Lib.hid hB
      clear hB
      go_wp2_with (first | (refine wpList_load_mid rfl 38 _ rfl _ _ rfl _ _ (range_of_list hO) Try.underlying38 rfl (by rw [HLEN.out]; kernel_rfl) ?_) | (refine wpList_store_new rfl 38 _ _ rfl _ (rowTo E 255 255) (rowTo E 255 0) 38 rfl rfl hI (by rw [length_rowTo, length_rowTo]) (by rw [HLEN.out]; kernel_rfl) (rowTo_ones _ _ _) ?_))
      have e0 : powRow = rowTo E 255 255 := by unfold powRow; rfl
      rw [e0]
      refine bodyPost_ret (v := .agg (rowTo E 255 255).toArray) ?_ rfl ⟨rfl, below_setCells HB.out (Nat.le_refl _) _ _⟩
      exact results_mid Try.results22 _ _ w.heap.size 0 _ _ rfl (World.rangeAt_setCells_same _ _ _ _ (there_of_list hI (by rw [length_rowTo, length_rowTo]; omega))) Try.underlying38 rfl (by rw [HLEN.out]; kernel_rfl)
theorem length_powRow : powRow.length = 255 := by unfold powRow; exact length_rowTo _ _ _
theorem powRow_get (i : Nat) (h : i < 255) : powRow[i]? = some (u8v (E i)) := by unfold powRow; exact rowTo_got E 255 255 i (by omega) h
set_option maxRecDepth 20000 in
set_option maxHeartbeats 1000000 in
theorem Log_nz (a : UInt8) (ha : a ≠ 0) (w : World) : Calls Try.prog 12 #[.int .u8 a.toNat] w fun e w' => e = .returned (.tuple #[.int .i64 (L a), .bool true]) ∧ Below w.heap.size w w' := by
  have HL := Lib.hid (L_lt a ha)
  have HE := Lib.hid (E_L a ha)
  have HA := Lib.hid ha
  clear ha
  go_enter Try.func12, Try.ntmps12
  go_wp2_with fail
  refine (powers_any _).mono ?_
  rintro e w1 ⟨rfl, hb1⟩
  have HB1 := Lib.hid hb1
  clear hb1
  go_wp2_with fail
  go_loopw [7] (fun iv wr => ∃ i : Nat, i ≤ L a ∧ iv = .int .i64 i ∧ wr = w1) (fun iv _ => 255 - (intOf iv).toNat)
  case atStart => exact ⟨0, by omega, rfl, rfl⟩
  case round =>
    obtain ⟨i, hj, rfl, rfl⟩ := hrel
    have hlt : i < 255 := by have := HL.out; omega
    have HG := Lib.hid (powRow_get i hlt)
    by_cases hx : i = L a
    · have hb := eq_u8 (by rw [hx]; exact HE.out : E i = a)
      have HX := Lib.hid hx
      clear hx hj
      go_wp2_with (refine wpList_index_agg rfl 38 _ _ rfl 37 255 powRow i (u8v (E i)) _ rfl rfl Try.underlying38 (by omega) (by kernel_rfl) Try.underlying37 rfl HG.out ?_; unfold u8v; go_frame)
      go_ret2
      exact ⟨ret_int_bool (by rw [HX.out]) rfl, HB1.out⟩
    · have hb := ne_u8 (fun h => hx (by rw [← h, L_E]; omega) : E i ≠ a)
      have H2 := Lib.hid (show i + 1 ≤ L a by omega)
      clear hx hj
      go_wp2_with (refine wpList_index_agg rfl 38 _ _ rfl 37 255 powRow i (u8v (E i)) _ rfl rfl Try.underlying38 (by omega) (by kernel_rfl) Try.underlying37 rfl HG.out ?_; unfold u8v; go_frame)
      go_roundw
      case rel => exact ⟨i + 1, H2.out, by go_num, trivial⟩
      case measure => simp [intOf]; omega
set_option maxRecDepth 20000 in
set_option maxHeartbeats 1000000 in
theorem Log_z (a : UInt8) (ha : a = 0) (w : World) : Calls Try.prog 12 #[.int .u8 a.toNat] w fun e w' => e = .returned (.tuple #[.int .i64 0, .bool false]) ∧ Below w.heap.size w w' := by
  have HA := Lib.hid ha
  clear ha
  go_enter Try.func12, Try.ntmps12
  go_wp2_with fail
  refine (powers_any _).mono ?_
  rintro e w1 ⟨rfl, hb1⟩
  have HB1 := Lib.hid hb1
  clear hb1
  go_wp2_with fail
  go_loopw [7] (fun iv wr => ∃ i : Nat, i ≤ 255 ∧ iv = .int .i64 i ∧ wr = w1) (fun iv _ => 255 - (intOf iv).toNat)
  case atStart => exact ⟨0, by omega, rfl, rfl⟩
  case round =>
    obtain ⟨i, hj, rfl, rfl⟩ := hrel
    by_cases hlt : i < 255
    · have HG := Lib.hid (powRow_get i hlt)
      have hb := ne_u8 (by rw [HA.out]; exact E_ne i : E i ≠ a)
      go_wp2_with (refine wpList_index_agg rfl 38 _ _ rfl 37 255 powRow i (u8v (E i)) _ rfl rfl Try.underlying38 (by omega) (by kernel_rfl) Try.underlying37 rfl HG.out ?_; unfold u8v; go_frame)
      go_roundw
      case rel => exact ⟨i + 1, by omega, by go_num, trivial⟩
      case measure => simp [intOf]; omega
    · obtain rfl : i = 255 := by omega
      go_wp2_with fail
      go_ret2
      exact ⟨rfl, HB1.out⟩
theorem Log_any (a : UInt8) (w : World) : Calls Try.prog 12 #[.int .u8 a.toNat] w fun e w' => e = .returned (.tuple #[.int .i64 (L a), .bool (nzB a)]) ∧ Below w.heap.size w w' := by
  rw [nzB_eq]
  by_cases h : a = 0
  · have := Log_z a h w
    rw [show L a = 0 by rw [h, L_zero], show decide (a ≠ 0) = false by simp [h]]; exact this
  · rw [show decide (a ≠ 0) = true by simp [h]]; exact Log_nz a h w
end Go.Proofs.Yteghbjcahggkeaa

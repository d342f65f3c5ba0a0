/- The walk of lent, of nothing; lent. -/
import Derived.Test.YtnaeekjocaecmaaMLent2
namespace Go.Proofs.Ytnaeekjocaecmaa
open Go.RowKit

theorem wpList_nil_append {w : World} {ops : Array Oper} {rest : List Oper} {o : Oper} {a : Act} {Q : Exit → Act → World → Prop} (hgd : o.guard = none) (s x : Operand) (ho : o.op = .call { callee := .builtin .append, args := #[s, x], argTypes := #[22, 22] })
    (hs : a.eval s = .slice none 0 0) (ao : Option Addr) (cx : Nat) (hx : a.eval x = .slice ao 0 cx) (hrun : ∀ v : World, (Builtin.append_ #[22, 22] o.type #[.slice none 0 0, .slice ao 0 cx]).run Try.prog v = .ok (.slice none 0 0) v)
    (h : wpList Try.prog ops Q rest (a.put o.dst (.slice none 0 0)) w) : wpList Try.prog ops Q (o :: rest) a w := by
  refine wpList_plain hgd fun K hK' => ?_
  have hr := hrun w
  unfold Oper.wp
  simp [execOp, ho, resolve, invoke, builtin, hs, hx, hr, Result.andThen]
  exact hK' _ _ h
theorem nil_none (ty : TypeId) (v : World) : (Builtin.append_ #[22, 22] ty #[.slice none 0 0, .slice none 0 0]).run Try.prog v = .ok (.slice none 0 0) v := by
  obtain ⟨i0, hi, _, _, _⟩ := ginfo_parts infoByte
  exact run_append_owned_none (P := Try.prog) v v.heap.size 22 ty 5 i0 1 Try.underlying22 hi (.slice none 0 0) 0 [] (World.ownsRow_nil v _ _ _)
theorem nil_some (ty : TypeId) (ad : Addr) (c : Nat) (v : World) : (Builtin.append_ #[22, 22] ty #[.slice none 0 0, .slice (some ad) 0 c]).run Try.prog v = .ok (.slice none 0 0) v := by
  obtain ⟨i0, hi, _, _, _⟩ := ginfo_parts infoByte
  have hl := run_loadCells_list (P := Try.prog) v ad [] (fun j u hu => by simp at hu)
  simp only [List.length_nil] at hl
  simp [Builtin.append_, run_underlying Try.underlying22, sizeOf, typeInfo, hi, Builtin.lenOf, Builtin.firstCells, hl, Result.andThen]
set_option maxRecDepth 20000 in
set_option maxHeartbeats 2000000 in
theorem lent_zero (r c : Int) (a0 : Option Addr) (cap : Nat) (hz : a0 = none → cap = 0) (w : World) :
    Calls Try.prog 20 #[.agg #[.int .i64 r, .int .i64 c, .slice a0 0 cap]] w fun e w' => ∃ g cap2, e = .returned (.agg #[.int .i64 r, .int .i64 c, .slice (some ⟨g, 0, none⟩) 0 cap2]) ∧ Hand (some ⟨g, 0, none⟩) 0 cap2 [] w' ∧ Below w.heap.size w w' := by
  obtain ⟨wa, hwa⟩ : ∃ wa, wa = (w.alloc (.cells #[.int .i64 r, .int .i64 c, .slice a0 0 cap] 24)).alloc (.cells #[.int .i64 0, .int .i64 0, .slice none 0 0] 24) := ⟨_, rfl⟩
  have R0 : Hid (RA r c a0 0 cap w wa) := Lib.hid (by rw [hwa]; exact ⟨heap_alloc2_old _ _ _, (below_alloc w _).alloc (by simp) _⟩)
  have RES : Hid (Res0 (w.heap.size + 1) wa) := Lib.hid ⟨by rw [hwa]; exact heap_alloc2_new _ _ _⟩
  have HSZ : Hid (wa.heap.size = w.heap.size + 1 + 1) := Lib.hid (by rw [hwa]; simp)
  have HWA := Lib.hid hwa
  have HLL : Hid (([] : List UInt8).length = 0) := Lib.hid rfl
  have HO1 : Hid (OwnB wa.heap.size (.slice none 0 0) [] wa) := Lib.hid (OwnB.nil _ _)
  have HB1 : Hid (Below wa.heap.size wa wa) := Lib.hid (Below.refl _ _)
  clear hwa
  cases a0 with
  | none =>
    obtain rfl := hz rfl
    have HNIL := Lib.hid (nil_none 22)
    go_enter Try.func20, Try.ntmps20
    go_wp2_with (first | (at_builtin; (refine wpList_nil_append rfl (.const (.slice none 0 0)) (.tmp 5) rfl rfl none 0 rfl (fun v => HNIL.out v) ?_; go_frame)) | (at_builtin; go_loud (rw [← HWA.out]; refine wpList_append_bytes rfl (.tmp 7) (.tmp 8) rfl wa.heap.size _ [] rfl (HO1.out.alloc _) ⟨w.heap.size + 1 + 1, 0, none⟩ 1 1 [77] rfl rfl (by have h7 := one_77 wa; rw [HSZ.out] at h7; exact h7) (by simp) (Nat.le_trans HB1.out.size (by simp)) ?_; intro v2 w2 ho hg; obtain ⟨g, cap2, hv2, hc2, hg2, hg2l, hrng, hB2⟩ := lent_facts HO1.out HB1.out ho.out hg.out HLL.out; subst hv2; have HR := Lib.hid hrng; have HB2 := Lib.hid hB2; have R2 := Lib.hid (R0.out.below HB2.out); have E2 := Lib.hid (RES.out.below' HB2.out); obtain ⟨f0, f1, f2⟩ := heap_cell0 R2.out.box; have ff := free_of_list R2.out.box 2; have q1 : (0 : Int) ≤ ((0 : Nat) : Int) := (by omega); have q2 : ((0 : Nat) : Int) ≤ (cap2 : Int) := (by omega); clear hrng hB2 ho hg; go_frame)) | (refine wpList_store_whole rfl 24 _ _ rfl (w.heap.size + 1) [.int .i64 r, .int .i64 c, .slice (some ⟨g, 0, none⟩) 0 cap2] zeroRow 24 rfl rfl (lent_res E2.out _) rfl (by kernel_rfl) (lent_ones _ _ _ _ _) ?_; intro w4 h4 k4 s4; go_frame))
    have hB4 : Below w.heap.size w (w2.setCell ⟨w.heap.size, 2, none⟩ (.slice (some ⟨g, 0, none⟩) 0 cap2)) := below_kept R2.out.old ((Kept.refl w2.heap.size [w.heap.size] w2).setCell (p := ⟨w.heap.size, 2, none⟩) (by simp) _) (Nat.le_refl _) R2.out.old.size
    have hgs := HSZ.out
    have hk : w4.heap[g]? = w2.heap[g]? := (k4.out.block g (by simp [World.setCell]; omega) (by simp; omega)).trans (heap_setCell_other _ _ _ _ (by show g ≠ w.heap.size; omega))
    exact bodyPost_ret (results_mid Try.results20 _ _ (w.heap.size + 1) 0 [.int .i64 r, .int .i64 c, .slice (some ⟨g, 0, none⟩) 0 cap2] _ rfl (range_of_list h4.out) Try.underlying24 rfl (by kernel_rfl)) rfl ⟨g, cap2, rfl, ⟨HLL.out, by omega, fun _ => ⟨g, 0, rfl, lt_of_block hk hg2l, fun j u hu => (World.cell?_of_block (w := w2) (a := ⟨g, 0 + j, none⟩) hk).trans (HR.out j u hu)⟩⟩, below_kept hB4 k4.out (by omega) hB4.size⟩
  | some ad =>
    have HNIL := Lib.hid (nil_some 22 ad cap)
    go_enter Try.func20, Try.ntmps20
    go_wp2_with (first | (at_builtin; (refine wpList_nil_append rfl (.const (.slice none 0 0)) (.tmp 5) rfl rfl (some ad) cap rfl (fun v => HNIL.out v) ?_; go_frame)) | (at_builtin; go_loud (rw [← HWA.out]; refine wpList_append_bytes rfl (.tmp 7) (.tmp 8) rfl wa.heap.size _ [] rfl (HO1.out.alloc _) ⟨w.heap.size + 1 + 1, 0, none⟩ 1 1 [77] rfl rfl (by have h7 := one_77 wa; rw [HSZ.out] at h7; exact h7) (by simp) (Nat.le_trans HB1.out.size (by simp)) ?_; intro v2 w2 ho hg; obtain ⟨g, cap2, hv2, hc2, hg2, hg2l, hrng, hB2⟩ := lent_facts HO1.out HB1.out ho.out hg.out HLL.out; subst hv2; have HR := Lib.hid hrng; have HB2 := Lib.hid hB2; have R2 := Lib.hid (R0.out.below HB2.out); have E2 := Lib.hid (RES.out.below' HB2.out); obtain ⟨f0, f1, f2⟩ := heap_cell0 R2.out.box; have ff := free_of_list R2.out.box 2; have q1 : (0 : Int) ≤ ((0 : Nat) : Int) := (by omega); have q2 : ((0 : Nat) : Int) ≤ (cap2 : Int) := (by omega); clear hrng hB2 ho hg; go_frame)) | (refine wpList_store_whole rfl 24 _ _ rfl (w.heap.size + 1) [.int .i64 r, .int .i64 c, .slice (some ⟨g, 0, none⟩) 0 cap2] zeroRow 24 rfl rfl (lent_res E2.out _) rfl (by kernel_rfl) (lent_ones _ _ _ _ _) ?_; intro w4 h4 k4 s4; go_frame))
    have hB4 : Below w.heap.size w (w2.setCell ⟨w.heap.size, 2, none⟩ (.slice (some ⟨g, 0, none⟩) 0 cap2)) := below_kept R2.out.old ((Kept.refl w2.heap.size [w.heap.size] w2).setCell (p := ⟨w.heap.size, 2, none⟩) (by simp) _) (Nat.le_refl _) R2.out.old.size
    have hgs := HSZ.out
    have hk : w4.heap[g]? = w2.heap[g]? := (k4.out.block g (by simp [World.setCell]; omega) (by simp; omega)).trans (heap_setCell_other _ _ _ _ (by show g ≠ w.heap.size; omega))
    exact bodyPost_ret (results_mid Try.results20 _ _ (w.heap.size + 1) 0 [.int .i64 r, .int .i64 c, .slice (some ⟨g, 0, none⟩) 0 cap2] _ rfl (range_of_list h4.out) Try.underlying24 rfl (by kernel_rfl)) rfl ⟨g, cap2, rfl, ⟨HLL.out, by omega, fun _ => ⟨g, 0, rfl, lt_of_block hk hg2l, fun j u hu => (World.cell?_of_block (w := w2) (a := ⟨g, 0 + j, none⟩) hk).trans (HR.out j u hu)⟩⟩, below_kept hB4 k4.out (by omega) hB4.size⟩
theorem lent_any (r c : Int) (a0 : Option Addr) (len cap : Nat) (l : List UInt8) (hz : a0 = none → cap = 0) (hlen : len ≤ 1600) (w : World) (h : Hand a0 len cap l w) :
    Calls Try.prog 20 #[.agg #[.int .i64 r, .int .i64 c, .slice a0 len cap]] w fun e w' => ∃ g cap2, e = .returned (.agg #[.int .i64 r, .int .i64 c, .slice (some ⟨g, 0, none⟩) len cap2]) ∧ Hand (some ⟨g, 0, none⟩) len cap2 l w' ∧ Below w.heap.size w w' := by
  by_cases h0 : 0 < len
  · obtain ⟨b, o, rfl, hbl, hr⟩ := h.cells h0
    exact lent_pos r c b o len cap l h.hl h0 hlen w hbl hr
  · obtain rfl : len = 0 := by omega
    obtain rfl : l = [] := List.eq_nil_of_length_eq_zero h.hl
    exact lent_zero r c a0 cap hz w
theorem wpList_nil_appendT {w : World} {ops : Array Oper} {rest : List Oper} {o : Oper} {a : Act} {Q : Exit → Act → World → Prop} (hgd : o.guard = none) (s x : Operand) (ho : o.op = .call { callee := .builtin .append, args := #[s, x], argTypes := #[51, 51] })
    (hs : a.eval s = .slice none 0 0) (ao : Option Addr) (cx : Nat) (hx : a.eval x = .slice ao 0 cx) (hz : ao = none → cx = 0)
    (h : wpList Try.prog ops Q rest (a.put o.dst (.slice none 0 0)) w) : wpList Try.prog ops Q (o :: rest) a w := by
  refine wpList_plain hgd fun K hK' => ?_
  have hr : (Builtin.append_ #[51, 51] o.type #[.slice none 0 0, .slice ao 0 cx]).run Try.prog w = .ok (.slice none 0 0) w := by
    obtain ⟨i0, hi, _, _, _⟩ := ginfo_parts infoStr
    cases ao with
    | none =>
      obtain rfl := hz rfl
      exact run_append_owned_none (P := Try.prog) w w.heap.size 51 o.type 9 i0 1 Try.underlying51 hi (.slice none 0 0) 0 [] (World.ownsRow_nil w _ _ _)
    | some ad =>
      have hl := run_loadCells_list (P := Try.prog) w ad [] (fun j u hu => by simp at hu)
      simp only [List.length_nil] at hl
      simp [Builtin.append_, run_underlying Try.underlying51, sizeOf, typeInfo, hi, Builtin.lenOf, Builtin.firstCells, hl, Result.andThen]
  unfold Oper.wp
  simp [execOp, ho, resolve, invoke, builtin, hs, hx, hr, Result.andThen]
  exact hK' _ _ h
end Go.Proofs.Ytnaeekjocaecmaa

/- A value is pushed behind the others: the region that draws its order. -/
import Derived.Test.YthfnlnhehececaaDoorNReg
import Derived.Test.YthfnlnhehececaaDoorNMem
namespace Go.Proofs.YthfnlnhehececaaDoor
open Go Go.RowKit

section
variable {ρ : Operand → Value} {o : Oper} {w : World}
theorem run_fa3 (x : Operand) (g : Nat) (ho : o.op = .fieldAddr 25 x 3) (hx : ρ x = .pointer (some ⟨g, 0, none⟩)) : (execOp ρ o).run Tryd.prog w = .ok (.value (.pointer (some ⟨g, 3, none⟩))) w := by
  unfold execOp
  simp [ho, hx, go_sem]
theorem run_fa2 (x : Operand) (g : Nat) (ho : o.op = .fieldAddr 25 x 2) (hx : ρ x = .pointer (some ⟨g, 0, none⟩)) : (execOp ρ o).run Tryd.prog w = .ok (.value (.pointer (some ⟨g, 2, none⟩))) w := by
  unfold execOp
  simp [ho, hx, go_sem]
theorem run_ld (T : TypeId) (x : Operand) (g j : Nat) (v : Value) (hT : ∀ w : World, (isAgg T).run Tryd.prog w = .ok false w) (ho : o.op = .load T x) (hx : ρ x = .pointer (some ⟨g, j, none⟩)) (hc : w.cell? ⟨g, j, none⟩ = some v) : (execOp ρ o).run Tryd.prog w = .ok (.value v) w := by
  unfold execOp
  simp [ho, hx, go_sem, hc, hT]
theorem run_ln (x : Operand) (a : Option Addr) (n c : Nat) (ho : o.op = .call { callee := .builtin .len, args := #[x], argTypes := #[23] }) (hx : ρ x = .slice a n c) : (execOp ρ o).run Tryd.prog w = .ok (.value (.int .i64 n)) w := by
  unfold execOp
  simp [ho, hx, go_sem, resolve, invoke, builtin]
theorem run_ix (x y : Operand) (g n c : Nat) (ho : o.op = .indexAddr 23 x y) (hx : ρ x = .slice (some ⟨g, 0, none⟩) (n + 1) c) (hy : ρ y = .int .i64 n) : (execOp ρ o).run Tryd.prog w = .ok (.value (.pointer (some ⟨g, 4 * n, none⟩))) w := by
  unfold execOp
  simp [ho, hx, hy, go_sem]
  rw [if_pos (by omega), Nat.mul_comm]
theorem infoJson : (Tryd.prog.info? 25).map (fun i => (i.zero, i.size, i.bytes)) = some (some (.agg #[.int .i64 0, .string ⟨#[]⟩, .slice none 0 0, .slice none 0 0]), 4, 72) := by kernel_rfl
theorem infoString : (Tryd.prog.info? 9).map (fun i => (i.zero, i.size, i.bytes)) = some (some (.string ⟨#[]⟩), 1, 16) := by kernel_rfl
theorem run_bs1 (x : Operand) (ho : o.op = .buildSlice 23 1 #[(0, x)]) (hx : (ρ x).cells.size = 4) : (execOp ρ o).run Tryd.prog w = .ok (.value (.slice (some ⟨w.heap.size, 0, none⟩) 1 1)) (w.alloc (.cells (ρ x).cells 25)) := by
  obtain ⟨i, hi, hz0, hz1, hz2⟩ := info_parts infoJson
  have he : Tryd.prog.elem 23 = 25 := by kernel_rfl
  cases o with
  | mk dst op ty pos after guard =>
    simp only at ho
    subst ho
    rw [← he]
    exact run_buildSlice_one ⟨25, i, _, Tryd.underlying23, hi, hz0, by rw [hz1]; rfl, by omega, by omega, by rw [hz1]; exact hx⟩
theorem run_bs2 (x : Operand) (ho : o.op = .buildSlice 22 1 #[(0, x)]) (hx : (ρ x).cells.size = 1) : (execOp ρ o).run Tryd.prog w = .ok (.value (.slice (some ⟨w.heap.size, 0, none⟩) 1 1)) (w.alloc (.cells (ρ x).cells 9)) := by
  obtain ⟨i, hi, hz0, hz1, hz2⟩ := info_parts infoString
  have he : Tryd.prog.elem 22 = 9 := by kernel_rfl
  cases o with
  | mk dst op ty pos after guard =>
    simp only at ho
    subst ho
    rw [← he]
    exact run_buildSlice_one ⟨9, i, _, Tryd.underlying22, hi, hz0, by rw [hz1]; rfl, by omega, by omega, by rw [hz1]; exact hx⟩
theorem run_ap (x y : Operand) (base : Nat) (v : Value) (n : Nat) (xs : List Value) (ad : Addr) (c : Nat) (news : List Value) (ho : o.op = .call { callee := .builtin .append, args := #[x, y], argTypes := #[23, 23] }) (hx : ρ x = v) (hown : w.ownsRow base 25 4 v n xs) (hy : ρ y = .slice (some ad) 1 c)
    (hl : news.length = 4) (hnews : ∀ j u, news[j]? = some u → w.cell? (ad.add j) = some u) (h1 : ∀ u ∈ news, u.oneCell' = true) (hn : n ≤ 1000000) (hb : base ≤ w.heap.size) :
    ∃ g cap w', (execOp ρ o).run Tryd.prog w = .ok (.value (.slice (some ⟨g, 0, none⟩) (n + 1) cap)) w' ∧ w'.ownsRow base 25 4 (.slice (some ⟨g, 0, none⟩) (n + 1) cap) (n + 1) (xs ++ news) ∧ w.grownBy w' v.ownBlock ∧ (v.ownBlock = some g ∨ w.heap.size ≤ g) := by
  obtain ⟨i, hi, hz0, hz1, hz2⟩ := info_parts infoJson
  obtain ⟨g, cap, w', hrun, h2, h3, h4⟩ := run_append_where (P := Tryd.prog) w base 23 o.type 25 i _ 4 72 Tryd.underlying23 hi hz0 hz1 hz2 rfl (by omega) v n xs hown ad 1 c news (by omega) (by rw [hl]) hnews h1 (by unfold maxLen; omega) (by omega) hb
  refine ⟨g, cap, w', ?_, h2, h3, h4⟩
  unfold execOp
  simp [ho, hx, hy, resolve, invoke, builtin, hrun]
theorem run_ap2 (x y : Operand) (base : Nat) (v : Value) (n : Nat) (xs : List Value) (ad : Addr) (c : Nat) (news : List Value) (ho : o.op = .call { callee := .builtin .append, args := #[x, y], argTypes := #[22, 22] }) (hx : ρ x = v) (hown : w.ownsRow base 9 1 v n xs) (hy : ρ y = .slice (some ad) 1 c)
    (hl : news.length = 1) (hnews : ∀ j u, news[j]? = some u → w.cell? (ad.add j) = some u) (h1 : ∀ u ∈ news, u.oneCell' = true) (hn : n ≤ 1000000) (hb : base ≤ w.heap.size) :
    ∃ g cap w', (execOp ρ o).run Tryd.prog w = .ok (.value (.slice (some ⟨g, 0, none⟩) (n + 1) cap)) w' ∧ w'.ownsRow base 9 1 (.slice (some ⟨g, 0, none⟩) (n + 1) cap) (n + 1) (xs ++ news) ∧ w.grownBy w' v.ownBlock ∧ (v.ownBlock = some g ∨ w.heap.size ≤ g) := by
  obtain ⟨i, hi, hz0, hz1, hz2⟩ := info_parts infoString
  obtain ⟨g, cap, w', hrun, h2, h3, h4⟩ := run_append_where (P := Tryd.prog) w base 22 o.type 9 i _ 1 16 Tryd.underlying22 hi hz0 hz1 hz2 rfl (by omega) v n xs hown ad 1 c news (by omega) (by rw [hl]) hnews h1 (by unfold maxLen; omega) (by omega) hb
  refine ⟨g, cap, w', ?_, h2, h3, h4⟩
  unfold execOp
  simp [ho, hx, hy, resolve, invoke, builtin, hrun]
theorem run_cl (T : TypeId) (f : FuncId) (x : Operand) (v : Value) (hf : ∀ args w, (callFunc f args).run Tryd.prog w = .ok (.enter f args) w) (ho : o.op = .call { callee := .value (.func f), args := #[x], argTypes := #[T] }) (hx : ρ x = v) (hef : ρ (.func f) = .func (.func f) #[] #[]) : (execOp ρ o).run Tryd.prog w = .ok (.enter f #[v]) w := by
  unfold execOp
  simp [ho, hx, hef, resolve, Deferred.ofValue, invoke, hf]
theorem run_st1 (x y : Operand) (g j : Nat) (ad : Option Addr) (n c : Nat) (u : Value) (ho : o.op = .store 23 x y) (hx : ρ x = .pointer (some ⟨g, j, none⟩)) (hy : ρ y = .slice ad n c) (hc : w.cell? ⟨g, j, none⟩ = some u) (hf : w.frozen? ⟨g, j, none⟩ = false) : (execOp ρ o).run Tryd.prog w = .ok .skip (w.setCell ⟨g, j, none⟩ (.slice ad n c)) := by
  unfold execOp
  simp [ho, hx, hy, go_sem, hc, hf]
theorem run_st2 (x y : Operand) (g j : Nat) (ad : Option Addr) (n c : Nat) (u : Value) (ho : o.op = .store 22 x y) (hx : ρ x = .pointer (some ⟨g, j, none⟩)) (hy : ρ y = .slice ad n c) (hc : w.cell? ⟨g, j, none⟩ = some u) (hf : w.frozen? ⟨g, j, none⟩ = false) : (execOp ρ o).run Tryd.prog w = .ok .skip (w.setCell ⟨g, j, none⟩ (.slice ad n c)) := by
  unfold execOp
  simp [ho, hx, hy, go_sem, hc, hf]
theorem run_st4 (x y : Operand) (g j : Nat) (cs : Array Value) (ho : o.op = .store 25 x y) (hx : ρ x = .pointer (some ⟨g, j, none⟩)) (hy : ρ y = .agg cs) (hs : cs.size = 4) (h1 : cs.all (·.oneCell') = true) (ht : w.there g j 4) : (execOp ρ o).run Tryd.prog w = .ok .skip (w.setCells g j cs.toList) := by
  have hi : (Tryd.prog.info? 25).map (·.size) = some cs.size := by rw [hs]; kernel_rfl
  unfold execOp
  simp only [ho, hx, hy, Sem.run_bind, run_storeAt_mid w g j 25 cs (by rw [hs]; exact ht) hi h1, Result.andThen_ok, Sem.run_pure]
end
theorem four_one {v : Value} (h : Four v) : ∃ cs : Array Value, v = .agg cs ∧ cs.size = 4 ∧ cs.all (·.oneCell') = true ∧ cs.toList = partsV v := by
  obtain ⟨k, t, nv, kv, rfl, h1, h2⟩ := h
  refine ⟨_, rfl, rfl, ?_, rfl⟩
  simp only [List.all_toArray, List.all_cons, List.all_nil, Bool.and_true, Bool.and_eq_true]
  exact ⟨rfl, rfl, h1, h2⟩
/-- The row's last value is put in its place. -/
theorem own_set_last {w : World} {lo g n c : Nat} {xs old new : List Value} (h : w.ownsRow lo 25 4 (.slice (some ⟨g, 0, none⟩) (n + 1) c) (n + 1) (xs ++ old)) (hx : xs.length = 4 * n) (ho : old.length = 4) (hn : new.length = 4) :
    (w.setCells g (4 * n) new).ownsRow lo 25 4 (.slice (some ⟨g, 0, none⟩) (n + 1) c) (n + 1) (xs ++ new) ∧ w.there g (4 * n) 4 := by
  rcases h.2 with ⟨h0, _⟩ | ⟨g', cap, cur, h0, hB, hg, hc, hm, hsz, htk⟩
  · cases h0
  · simp only [Value.slice.injEq, Option.some.injEq, Addr.mk.injEq, and_true, true_and] at h0
    obtain ⟨rfl, rfl⟩ := h0
    have hcur : cur.toList = xs ++ (old ++ cur.toList.drop ((n + 1) * 4)) := by
      rw [← List.append_assoc, ← htk, List.take_append_drop]
    have hg2 : w.heap[g]? = some (.cells (xs ++ (old ++ cur.toList.drop ((n + 1) * 4))).toArray 25 (0, 0)) := by rw [hg, ← hcur]
    have hset := setCells_list new (4 * n) _ w hg2
    rw [← hx, laid_mid' new xs old _ (by rw [ho, hn])] at hset
    refine ⟨⟨by simp [hx, hn]; omega, Or.inr ⟨g, c, (xs ++ (new ++ cur.toList.drop ((n + 1) * 4))).toArray, rfl, hB, ?_, hc, hm, ?_, ?_⟩⟩, ?_⟩
    · rw [← hx]; exact hset
    · have := congrArg List.length hcur
      simp only [List.length_append, Array.length_toList] at this
      simp only [List.size_toArray, List.length_append]
      omega
    · simp only []
      rw [← List.append_assoc, List.take_left']
      simp [hx, hn]; omega
    · refine there_of_list hg2 ?_
      simp [hx, ho]
end Go.Proofs.YthfnlnhehececaaDoor

/- The beginning of a copy: the region that draws its order. -/
import Derived.Test.YthfnlnhehececaaDoorNCopy
namespace Go.Proofs.YthfnlnhehececaaDoor
open Go Go.RowKit

section
variable {ρ : Operand → Value} {o : Oper} {w : World}
theorem run_fj (x : Operand) (j g : Nat) (hj : j < 4) (ho : o.op = .fieldAddr 25 x j) (hx : ρ x = .pointer (some ⟨g, 0, none⟩)) : (execOp ρ o).run Tryd.prog w = .ok (.value (.pointer (some ⟨g, j, none⟩))) w := by
  unfold execOp
  rcases (show j = 0 ∨ j = 1 ∨ j = 2 ∨ j = 3 by omega) with rfl | rfl | rfl | rfl <;> simp [ho, hx, go_sem]
theorem run_b2 (x y : Operand) (k : Int) (t : List UInt8) (ho : o.op = .build 25 #[(0, x), (1, y)]) (hx : ρ x = .int .i64 k) (hy : ρ y = .string (bs t)) : (execOp ρ o).run Tryd.prog w = .ok (.value (.agg (jrow k t (.slice none 0 0) (.slice none 0 0)).toArray)) w := by
  unfold execOp
  simp only [ho, List.map_toArray, List.map_cons, List.map_nil, hx, hy, Sem.run_bind]
  rw [build_json2]
  rfl
theorem run_al (ho : o.op = .alloc 25) : (execOp ρ o).run Tryd.prog w = .ok (.value (.pointer (some ⟨w.heap.size, 0, none⟩))) (w.alloc (.cells noRow.toArray 25)) := by
  unfold execOp
  simp only [ho, Sem.run_bind]
  rw [allocJson]
  rfl
end
def copyOps : Array Oper := #[
  { dst := some 8, op := .fieldAddr 25 (.tmp 1) 0, type := 0, pos := "right.go:75", after := #[], guard := none },
  { dst := some 9, op := .load 3 (.tmp 8), type := 3, pos := "right.go:75", after := #[{ on := 0, ground := .data }], guard := none },
  { dst := some 10, op := .fieldAddr 25 (.tmp 1) 1, type := 0, pos := "right.go:75", after := #[], guard := none },
  { dst := some 11, op := .load 9 (.tmp 10), type := 9, pos := "right.go:75", after := #[{ on := 2, ground := .data }], guard := none },
  { dst := some 12, op := .call { callee := .value (.func 43), args := #[.tmp 11], argTypes := #[9] }, type := 9, pos := "right.go:75", after := #[{ on := 3, ground := .data }], guard := none },
  { dst := some 13, op := .build 25 #[(0, .tmp 9), (1, .tmp 12)], type := 25, pos := "right.go:75", after := #[{ on := 1, ground := .data }, { on := 4, ground := .data }], guard := none },
  { dst := some 3, op := .alloc 25, type := 0, pos := "right.go:75", after := #[], guard := none },
  { dst := none, op := .store 25 (.tmp 3) (.tmp 13), type := 0, pos := "right.go:75", after := #[{ on := 6, ground := .data }, { on := 5, ground := .data }, { on := 4, ground := .chain }, { on := 0, ground := .phase }, { on := 1, ground := .phase }, { on := 2, ground := .phase }, { on := 3, ground := .phase }, { on := 4, ground := .phase }, { on := 5, ground := .phase }, { on := 6, ground := .phase }], guard := none }]
structure CC (a0 : Act) (w0 : World) (bb : Nat) (k : Int) (t : List UInt8) (d0 d1 d2 d3 d4 d5 d6 d7 : Bool) (a : Act) (w : World) (jb : Nat) : Prop where
  df : a.defers = []
  sz_ : a.tmps.size = 45
  pres : ∀ i, i < 3 ∨ (3 < i ∧ i < 8) ∨ 14 ≤ i → a.tmps.getD i undef = a0.tmps.getD i undef
  s0 : d0 = true → a.tmps.getD 8 undef = .pointer (some ⟨bb, 0, none⟩)
  s1 : d1 = true → a.tmps.getD 9 undef = .int .i64 k
  s2 : d2 = true → a.tmps.getD 10 undef = .pointer (some ⟨bb, 1, none⟩)
  s3 : d3 = true → a.tmps.getD 11 undef = .string (bs t)
  s4 : d4 = true → a.tmps.getD 12 undef = .string (bs t)
  s5 : d5 = true → a.tmps.getD 13 undef = .agg (jrow k t (.slice none 0 0) (.slice none 0 0)).toArray
  s6 : d6 = true → a.tmps.getD 3 undef = .pointer (some ⟨jb, 0, none⟩) ∧ w.heap[jb]? = some (.cells (if d7 then jrow k t (.slice none 0 0) (.slice none 0 0) else noRow).toArray 25 (0, 0)) ∧ w0.heap.size ≤ jb
  d76 : d7 = true → d6 = true
  fr : Below w0.heap.size w0 w
set_option maxHeartbeats 4000000 in
theorem copy_begin (bb : Nat) (k : Int) (t : List UInt8) (nv kv : Value) (ht : t.length ≤ 140737488355328) (Q : Exit → Act → World → Prop) (id : Nat) (a0 : Act) (w0 : World) (hd : a0.defers = []) (hsz : a0.tmps.size = 45) (ht1 : a0.tmps.getD 1 undef = .pointer (some ⟨bb, 0, none⟩))
    (hbb : w0.heap[bb]? = some (.cells (jrow k t nv kv).toArray 25 (0, 0)))
    (hok : ∀ a w' jb, a.defers = [] → a.tmps.size = 45 → (∀ i, i < 3 ∨ (3 < i ∧ i < 8) ∨ 14 ≤ i → a.tmps.getD i undef = a0.tmps.getD i undef) → a.tmps.getD 3 undef = .pointer (some ⟨jb, 0, none⟩) → w'.heap[jb]? = some (.cells (jrow k t (.slice none 0 0) (.slice none 0 0)).toArray 25 (0, 0)) → w0.heap.size ≤ jb → Below w0.heap.size w0 w' → Q .normal a w') :
    (Code.region id copyOps true).wp Tryd.prog Q a0 w0 := by
  have einv : ∀ args w, (callFunc 43 args).run Tryd.prog w = .ok (.enter 43 args) w := enters_of Tryd.func43 (by kernel_rfl) rfl
  refine wp_region_inv (by kernel_rfl) (by kernel_rfl) (fun D a' w' => ∃ jb, CC a0 w0 bb k t (D 0) (D 1) (D 2) (D 3) (D 4) (D 5) (D 6) (D 7) a' w' jb) ?_ ?_ ?_
  · exact ⟨0, { df := hd, sz_ := hsz, pres := fun _ _ => rfl, s0 := (fun e => (nomatch e)), s1 := (fun e => (nomatch e)), s2 := (fun e => (nomatch e)), s3 := (fun e => (nomatch e)), s4 := (fun e => (nomatch e)), s5 := (fun e => (nomatch e)), s6 := (fun e => (nomatch e)), d76 := (fun e => (nomatch e)), fr := (Below.refl _ _).drew }⟩
  · intro D a' w' i o hI hoi hDi hdep
    have hi : i < 8 := (Array.getElem?_eq_some_iff.1 hoi).1
    obtain ⟨jb, h⟩ := hI
    have hbs := h.fr.size
    have hbb' : w'.heap[bb]? = some (.cells (jrow k t nv kv).toArray 25 (0, 0)) := (h.fr.block bb (lt_of_heap hbb)).trans hbb
    have ht1' : a'.tmps.getD 1 undef = .pointer (some ⟨bb, 0, none⟩) := (h.pres 1 (Or.inl (by omega))).trans ht1
    by_cases e0 : i = 0
    · subst e0
      obtain rfl : o = { dst := some 8, op := .fieldAddr 25 (.tmp 1) 0, type := 0, pos := "right.go:75", after := #[], guard := none } := (Option.some.inj hoi).symm
      refine wpOp_run hoi rfl _ (run_fj (.tmp 1) 0 bb (by omega) rfl ht1') ?_
      exact ⟨jb, { df := (by rw [put_defers]; exact h.df), sz_ := (by rw [put_size]; exact h.sz_), pres := fun q hq => (by rw [get_other _ _ (by omega)]; exact h.pres q hq), s0 := fun _ => (by rw [get_same _ _ (by rw [h.sz_]; omega)]), s1 := fun e => (by rw [get_other _ _ (by omega)]; exact h.s1 e), s2 := fun e => (by rw [get_other _ _ (by omega)]; exact h.s2 e), s3 := fun e => (by rw [get_other _ _ (by omega)]; exact h.s3 e), s4 := fun e => (by rw [get_other _ _ (by omega)]; exact h.s4 e), s5 := fun e => (by rw [get_other _ _ (by omega)]; exact h.s5 e), s6 := fun e => (by rw [get_other _ _ (by omega)]; exact h.s6 e), d76 := h.d76, fr := h.fr }⟩
    by_cases e1 : i = 1
    · subst e1
      obtain rfl : o = { dst := some 9, op := .load 3 (.tmp 8), type := 3, pos := "right.go:75", after := #[{ on := 0, ground := .data }], guard := none } := (Option.some.inj hoi).symm
      have d0 : D 0 = true := hdep { on := 0, ground := .data } (by simp) rfl
      refine wpOp_run hoi rfl _ (run_ld 3 (.tmp 8) bb 0 (.int .i64 k) (by intro w; kernel_rfl) rfl (h.s0 d0) (by rw [cell_of_list hbb']; rfl)) ?_
      exact ⟨jb, { df := (by rw [put_defers]; exact h.df), sz_ := (by rw [put_size]; exact h.sz_), pres := fun q hq => (by rw [get_other _ _ (by omega)]; exact h.pres q hq), s0 := fun e => (by rw [get_other _ _ (by omega)]; exact h.s0 e), s1 := fun _ => (by rw [get_same _ _ (by rw [h.sz_]; omega)]), s2 := fun e => (by rw [get_other _ _ (by omega)]; exact h.s2 e), s3 := fun e => (by rw [get_other _ _ (by omega)]; exact h.s3 e), s4 := fun e => (by rw [get_other _ _ (by omega)]; exact h.s4 e), s5 := fun e => (by rw [get_other _ _ (by omega)]; exact h.s5 e), s6 := fun e => (by rw [get_other _ _ (by omega)]; exact h.s6 e), d76 := h.d76, fr := h.fr }⟩
    by_cases e2 : i = 2
    · subst e2
      obtain rfl : o = { dst := some 10, op := .fieldAddr 25 (.tmp 1) 1, type := 0, pos := "right.go:75", after := #[], guard := none } := (Option.some.inj hoi).symm
      refine wpOp_run hoi rfl _ (run_fj (.tmp 1) 1 bb (by omega) rfl ht1') ?_
      exact ⟨jb, { df := (by rw [put_defers]; exact h.df), sz_ := (by rw [put_size]; exact h.sz_), pres := fun q hq => (by rw [get_other _ _ (by omega)]; exact h.pres q hq), s0 := fun e => (by rw [get_other _ _ (by omega)]; exact h.s0 e), s1 := fun e => (by rw [get_other _ _ (by omega)]; exact h.s1 e), s2 := fun _ => (by rw [get_same _ _ (by rw [h.sz_]; omega)]), s3 := fun e => (by rw [get_other _ _ (by omega)]; exact h.s3 e), s4 := fun e => (by rw [get_other _ _ (by omega)]; exact h.s4 e), s5 := fun e => (by rw [get_other _ _ (by omega)]; exact h.s5 e), s6 := fun e => (by rw [get_other _ _ (by omega)]; exact h.s6 e), d76 := h.d76, fr := h.fr }⟩
    by_cases e3 : i = 3
    · subst e3
      obtain rfl : o = { dst := some 11, op := .load 9 (.tmp 10), type := 9, pos := "right.go:75", after := #[{ on := 2, ground := .data }], guard := none } := (Option.some.inj hoi).symm
      have d2 : D 2 = true := hdep { on := 2, ground := .data } (by simp) rfl
      refine wpOp_run hoi rfl _ (run_ld 9 (.tmp 10) bb 1 (.string (bs t)) (by intro w; kernel_rfl) rfl (h.s2 d2) (by rw [cell_of_list hbb']; rfl)) ?_
      exact ⟨jb, { df := (by rw [put_defers]; exact h.df), sz_ := (by rw [put_size]; exact h.sz_), pres := fun q hq => (by rw [get_other _ _ (by omega)]; exact h.pres q hq), s0 := fun e => (by rw [get_other _ _ (by omega)]; exact h.s0 e), s1 := fun e => (by rw [get_other _ _ (by omega)]; exact h.s1 e), s2 := fun e => (by rw [get_other _ _ (by omega)]; exact h.s2 e), s3 := fun _ => (by rw [get_same _ _ (by rw [h.sz_]; omega)]), s4 := fun e => (by rw [get_other _ _ (by omega)]; exact h.s4 e), s5 := fun e => (by rw [get_other _ _ (by omega)]; exact h.s5 e), s6 := fun e => (by rw [get_other _ _ (by omega)]; exact h.s6 e), d76 := h.d76, fr := h.fr }⟩
    by_cases e4 : i = 4
    · subst e4
      obtain rfl : o = { dst := some 12, op := .call { callee := .value (.func 43), args := #[.tmp 11], argTypes := #[9] }, type := 9, pos := "right.go:75", after := #[{ on := 3, ground := .data }], guard := none } := (Option.some.inj hoi).symm
      have d3 : D 3 = true := hdep { on := 3, ground := .data } (by simp) rfl
      refine wpOp_call hoi rfl 43 _ (run_cl 9 43 (.tmp 11) _ einv rfl (h.s3 d3) rfl) ?_
      refine (clone_any t (by omega) w').mono fun e w2 he => ?_
      obtain ⟨rfl, hb2⟩ := he
      exact Or.inl ⟨_, rfl, jb, { df := (by rw [put_defers]; exact h.df), sz_ := (by rw [put_size]; exact h.sz_), pres := fun q hq => (by rw [get_other _ _ (by omega)]; exact h.pres q hq), s0 := fun e => (by rw [get_other _ _ (by omega)]; exact h.s0 e), s1 := fun e => (by rw [get_other _ _ (by omega)]; exact h.s1 e), s2 := fun e => (by rw [get_other _ _ (by omega)]; exact h.s2 e), s3 := fun e => (by rw [get_other _ _ (by omega)]; exact h.s3 e), s4 := fun _ => (by rw [get_same _ _ (by rw [h.sz_]; omega)]), s5 := fun e => (by rw [get_other _ _ (by omega)]; exact h.s5 e), s6 := fun e => (by rw [get_other _ _ (by omega)]; obtain ⟨b1, b2, b3⟩ := h.s6 e; exact ⟨b1, (hb2.block jb (lt_of_heap b2)).trans b2, b3⟩), d76 := h.d76, fr := h.fr.trans (hb2.mono hbs) }⟩
    by_cases e5 : i = 5
    · subst e5
      obtain rfl : o = { dst := some 13, op := .build 25 #[(0, .tmp 9), (1, .tmp 12)], type := 25, pos := "right.go:75", after := #[{ on := 1, ground := .data }, { on := 4, ground := .data }], guard := none } := (Option.some.inj hoi).symm
      have d1 : D 1 = true := hdep { on := 1, ground := .data } (by simp) rfl
      have d4 : D 4 = true := hdep { on := 4, ground := .data } (by simp) rfl
      refine wpOp_run hoi rfl _ (run_b2 (.tmp 9) (.tmp 12) k t rfl (h.s1 d1) (h.s4 d4)) ?_
      exact ⟨jb, { df := (by rw [put_defers]; exact h.df), sz_ := (by rw [put_size]; exact h.sz_), pres := fun q hq => (by rw [get_other _ _ (by omega)]; exact h.pres q hq), s0 := fun e => (by rw [get_other _ _ (by omega)]; exact h.s0 e), s1 := fun e => (by rw [get_other _ _ (by omega)]; exact h.s1 e), s2 := fun e => (by rw [get_other _ _ (by omega)]; exact h.s2 e), s3 := fun e => (by rw [get_other _ _ (by omega)]; exact h.s3 e), s4 := fun e => (by rw [get_other _ _ (by omega)]; exact h.s4 e), s5 := fun _ => (by rw [get_same _ _ (by rw [h.sz_]; omega)]), s6 := fun e => (by rw [get_other _ _ (by omega)]; exact h.s6 e), d76 := h.d76, fr := h.fr }⟩
    by_cases e6 : i = 6
    · subst e6
      obtain rfl : o = { dst := some 3, op := .alloc 25, type := 0, pos := "right.go:75", after := #[], guard := none } := (Option.some.inj hoi).symm
      have n7 : D 7 = false := by
        cases hd7 : D 7 with
        | false => rfl
        | true => have := h.d76 hd7; rw [hDi] at this; cases this
      have h6c : (w'.alloc (.cells noRow.toArray 25)).heap[w'.heap.size]? = some (.cells (if D 7 = true then jrow k t (.slice none 0 0) (.slice none 0 0) else noRow).toArray 25 (0, 0)) := by rw [n7]; exact heap_alloc_new _ _
      refine wpOp_run hoi rfl _ (run_al rfl) ?_
      have hal : Below w'.heap.size w' (w'.alloc (.cells noRow.toArray 25)) := (Below.refl _ _).alloc (Nat.le_refl _) _
      exact ⟨w'.heap.size, { df := (by rw [put_defers]; exact h.df), sz_ := (by rw [put_size]; exact h.sz_), pres := fun q hq => (by rw [get_other _ _ (by omega)]; exact h.pres q hq), s0 := fun e => (by rw [get_other _ _ (by omega)]; exact h.s0 e), s1 := fun e => (by rw [get_other _ _ (by omega)]; exact h.s1 e), s2 := fun e => (by rw [get_other _ _ (by omega)]; exact h.s2 e), s3 := fun e => (by rw [get_other _ _ (by omega)]; exact h.s3 e), s4 := fun e => (by rw [get_other _ _ (by omega)]; exact h.s4 e), s5 := fun e => (by rw [get_other _ _ (by omega)]; exact h.s5 e), s6 := fun _ => ⟨(by rw [get_same _ _ (by rw [h.sz_]; omega)]), h6c, hbs⟩, d76 := fun _ => rfl, fr := h.fr.trans (hal.mono hbs) }⟩
    · obtain rfl : i = 7 := by omega
      obtain rfl : o = { dst := none, op := .store 25 (.tmp 3) (.tmp 13), type := 0, pos := "right.go:75", after := #[{ on := 6, ground := .data }, { on := 5, ground := .data }, { on := 4, ground := .chain }, { on := 0, ground := .phase }, { on := 1, ground := .phase }, { on := 2, ground := .phase }, { on := 3, ground := .phase }, { on := 4, ground := .phase }, { on := 5, ground := .phase }, { on := 6, ground := .phase }], guard := none } := (Option.some.inj hoi).symm
      have d6 : D 6 = true := hdep { on := 6, ground := .data } (by simp) rfl
      have d5 : D 5 = true := hdep { on := 5, ground := .data } (by simp) rfl
      obtain ⟨b1, b2, b3⟩ := h.s6 d6
      rw [hDi] at b2
      simp only [Bool.false_eq_true, if_false] at b2
      have hrun := run_st4 (o := { dst := none, op := .store 25 (.tmp 3) (.tmp 13), type := 0, pos := "right.go:75", after := #[{ on := 6, ground := .data }, { on := 5, ground := .data }, { on := 4, ground := .chain }, { on := 0, ground := .phase }, { on := 1, ground := .phase }, { on := 2, ground := .phase }, { on := 3, ground := .phase }, { on := 4, ground := .phase }, { on := 5, ground := .phase }, { on := 6, ground := .phase }], guard := none }) (ρ := a'.eval) (w := w') (.tmp 3) (.tmp 13) jb 0 (jrow k t (.slice none 0 0) (.slice none 0 0)).toArray rfl b1 (h.s5 d5) rfl (all_oneCell_toArray (jrow_ones k t rfl rfl)) (there_of_list b2 (by exact Nat.le_refl _))
      refine wpOp_skip hoi rfl rfl hrun ?_
      have k8 : Kept w'.heap.size [jb] w' (w'.setCells jb 0 (jrow k t (.slice none 0 0) (.slice none 0 0)).toArray.toList) := kept_setCells _ _ _ _
      have hj8 : (w'.setCells jb 0 (jrow k t (.slice none 0 0) (.slice none 0 0)).toArray.toList).heap[jb]? = some (.cells (if true then jrow k t (.slice none 0 0) (.slice none 0 0) else noRow).toArray 25 (0, 0)) := by
        have := setCells_list (jrow k t (.slice none 0 0) (.slice none 0 0)) 0 noRow w' b2
        rw [laid_whole noRow (jrow k t (.slice none 0 0) (.slice none 0 0)) rfl] at this
        exact this
      exact ⟨jb, { df := h.df, sz_ := h.sz_, pres := h.pres, s0 := h.s0, s1 := h.s1, s2 := h.s2, s3 := h.s3, s4 := h.s4, s5 := h.s5, s6 := fun _ => ⟨b1, hj8, b3⟩, d76 := fun _ => d6, fr := below_kept h.fr k8 b3 hbs }⟩
  · intro D a' w' hI hall
    have hszo : copyOps.size = 8 := rfl
    obtain ⟨jb, h⟩ := hI
    obtain ⟨b1, b2, b3⟩ := h.s6 (hall 6 (by rw [hszo]; omega))
    rw [hall 7 (by rw [hszo]; omega)] at b2
    exact hok a' w' jb h.df h.sz_ h.pres b1 b2 b3 h.fr
end Go.Proofs.YthfnlnhehececaaDoor

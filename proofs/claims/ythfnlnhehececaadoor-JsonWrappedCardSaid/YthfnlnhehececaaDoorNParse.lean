/- json.Parse: the deferred call that hands back what was thrown. -/
import Derived.Test.YthfnlnhehececaaDoorNPush
import Derived.Recover
namespace Go.Proofs.YthfnlnhehececaaDoor
open Go Go.RowKit

def faultV (g : Nat) : Value := .iface 54 (.pointer (some ⟨g, 0, none⟩))
/-- A fault lies in a block. -/
def FaultAt (g : Nat) (c a : Int) (w : World) : Prop := w.heap[g]? = some (.cells [Value.int .i64 c, .int .i64 a, .nilIface].toArray 56 (0, 0))
theorem assert_ref (v : Value) (w : World) : (Instr.typeAssert (.iface 51 v) 20 51 true).run Tryd.prog w = .ok (.tuple #[v, .bool true]) w := by kernel_rfl
set_option maxRecDepth 100000 in
set_option maxHeartbeats 2000000 in
theorem refusalOf_any (c p : Nat) (w : World) : Calls Tryd.prog 22 #[refV c p] w fun e w' => e = .returned (.agg #[.int .i64 c, .int .i64 p]) ∧ Below w.heap.size w w' := by
  have ha := assert_ref
  unfold refV
  go_enter Tryd.func22, Tryd.ntmps22
  go_wp2
  have h1 := heap_alloc_new w (.cells #[Value.int .i64 c, .int .i64 p] 51)
  have h2 := (Below.heap_alloc (w.alloc (.cells #[Value.int .i64 c, .int .i64 p] 51)) (.cells #[Value.int .i64 c, .int .i64 p] 51) w.heap.size (lt_of_heap h1)).trans h1
  refine bodyPost_ret (results_mid rfl _ _ w.heap.size 0 [.int .i64 c, .int .i64 p] _ rfl (range_of_list h2) Tryd.underlying51 rfl (by kernel_rfl)) rfl ⟨rfl, ?_⟩
  exact ((Below.refl _ _).alloc (Nat.le_refl _) _).alloc (by simp) _
theorem neq_nil (w : World) : (binOp .neq 20 .nilIface .nilIface).run Tryd.prog w = .ok (.bool false) w := by kernel_rfl
theorem neq_ref (c p : Nat) (w : World) : (eqGuard .neq 20 (.tmp 5) (.const .nilIface) (refV c p) .nilIface).run Tryd.prog w = .ok () w ∧ (binOp .neq 20 (refV c p) .nilIface).run Tryd.prog w = .ok (.bool true) w := by
  unfold refV
  exact ⟨by kernel_rfl, by kernel_rfl⟩
set_option maxRecDepth 100000 in
set_option maxHeartbeats 2000000 in
theorem catch_idle (p q : Value) (w : World) : CallsD Tryd.prog 24 #[p, q] .returning w fun e u' w' => e = .returned (.tuple #[]) ∧ u' = .returning ∧ w' = w := by
  refine callsD_of_wpS Tryd.func24 rfl fun c₀ cs hu => ?_
  apply wpS_seq
  apply wpS_region
  simp [wpOpsS, go_sem, recoverD, hu, Tryd.ntmps24, Exit.thenS]
  change Code.wpS Tryd.prog _ _ { tmps := #[p, q, .nilIface, undef, .nilIface, undef, undef, undef, undef, undef, undef, undef, undef, undef, undef, undef, undef], defers := [] } _ _
  refine wpS_of_wp ?_
  have hq := neq_nil
  go_wp2
  refine ⟨rfl, .returning, ?_, _, results_none rfl _ _ _, rfl, rfl, rfl⟩
  cases c₀
  simp_all
/- the region -/
section
variable {ρ : Operand → Value} {o : Oper} {w : World}
theorem run_fr (x : Operand) (j g : Nat) (hj : j < 2) (ho : o.op = .fieldAddr 51 x j) (hx : ρ x = .pointer (some ⟨g, 0, none⟩)) : (execOp ρ o).run Tryd.prog w = .ok (.value (.pointer (some ⟨g, j, none⟩))) w := by
  unfold execOp
  rcases (show j = 0 ∨ j = 1 by omega) with rfl | rfl <;> simp [ho, hx, go_sem]
theorem build_json0 (w : World) : (Instr.build 25 #[]).run Tryd.prog w = .ok (.agg noRow.toArray) w := by kernel_rfl
theorem run_b0 (ho : o.op = .build 25 #[]) : (execOp ρ o).run Tryd.prog w = .ok (.value (.agg noRow.toArray)) w := by
  unfold execOp
  simp only [ho, List.map_toArray, List.map_nil, Sem.run_bind]
  rw [build_json0]
  rfl
theorem build_fault (c p : Int) (w : World) : (Instr.build 56 #[(0, .int .i64 c), (1, .int .i64 p)]).run Tryd.prog w = .ok (.agg #[.int .i64 c, .int .i64 p, .nilIface]) w := by kernel_rfl
theorem run_b1 (x y : Operand) (c p : Int) (ho : o.op = .build 56 #[(0, x), (1, y)]) (hx : ρ x = .int .i64 c) (hy : ρ y = .int .i64 p) : (execOp ρ o).run Tryd.prog w = .ok (.value (.agg #[.int .i64 c, .int .i64 p, .nilIface])) w := by
  unfold execOp
  simp only [ho, List.map_toArray, List.map_cons, List.map_nil, hx, hy, Sem.run_bind]
  rw [build_fault]
  rfl
theorem box_fault (c p : Int) (w : World) : (Instr.box 56 (.agg #[.int .i64 c, .int .i64 p, .nilIface])).run Tryd.prog w = .ok (.pointer (some ⟨w.heap.size, 0, none⟩)) (w.alloc (.cells [Value.int .i64 c, .int .i64 p, .nilIface].toArray 56)) := by kernel_rfl
theorem run_bx (x : Operand) (c p : Int) (ho : o.op = .box 56 x) (hx : ρ x = .agg #[.int .i64 c, .int .i64 p, .nilIface]) : (execOp ρ o).run Tryd.prog w = .ok (.value (.pointer (some ⟨w.heap.size, 0, none⟩))) (w.alloc (.cells [Value.int .i64 c, .int .i64 p, .nilIface].toArray 56)) := by
  unfold execOp
  simp only [ho, hx, Sem.run_bind]
  rw [box_fault]
  rfl
theorem mi_fault (g : Nat) (w : World) : (Instr.makeInterface 54 (.pointer (some ⟨g, 0, none⟩))).run Tryd.prog w = .ok (faultV g) w := by kernel_rfl
theorem run_mi (x : Operand) (g : Nat) (ho : o.op = .makeInterface 54 x) (hx : ρ x = .pointer (some ⟨g, 0, none⟩)) : (execOp ρ o).run Tryd.prog w = .ok (.value (faultV g)) w := by
  unfold execOp
  simp only [ho, hx, Sem.run_bind]
  rw [mi_fault]
  rfl
theorem run_se (x y : Operand) (g j f : Nat) (u : Value) (ho : o.op = .store 31 x y) (hx : ρ x = .pointer (some ⟨g, j, none⟩)) (hy : ρ y = faultV f) (hc : w.cell? ⟨g, j, none⟩ = some u) (hf : w.frozen? ⟨g, j, none⟩ = false) : (execOp ρ o).run Tryd.prog w = .ok .skip (w.setCell ⟨g, j, none⟩ (faultV f)) := by
  unfold execOp faultV at *
  simp [ho, hx, hy, hc, hf, go_sem]
end
section
variable (gj ge rb : Nat) (c p : Nat) (old : List Value) (x : Value) (w0 : World)
structure PC (d0 d1 d2 d3 d4 d5 d6 d7 d8 d9 : Bool) (a : Act) (w : World) (fb : Nat) : Prop where
  df : a.defers = []
  sz_ : a.tmps.size = 17
  t0 : a.tmps.getD 0 undef = .pointer (some ⟨gj, 0, none⟩)
  t1 : a.tmps.getD 1 undef = .pointer (some ⟨ge, 0, none⟩)
  t3 : a.tmps.getD 3 undef = .pointer (some ⟨rb, 0, none⟩)
  s0 : d0 = true → a.tmps.getD 9 undef = .agg noRow.toArray
  s1 : d1 = true → a.tmps.getD 10 undef = .pointer (some ⟨rb, 0, none⟩)
  s2 : d2 = true → a.tmps.getD 11 undef = .int .i64 c
  s3 : d3 = true → a.tmps.getD 12 undef = .pointer (some ⟨rb, 1, none⟩)
  s4 : d4 = true → a.tmps.getD 13 undef = .int .i64 p
  s5 : d5 = true → a.tmps.getD 14 undef = .agg #[.int .i64 c, .int .i64 p, .nilIface]
  s6 : d6 = true → a.tmps.getD 15 undef = .pointer (some ⟨fb, 0, none⟩) ∧ FaultAt fb c p w ∧ w0.heap.size ≤ fb
  s7 : d7 = true → a.tmps.getD 16 undef = faultV fb
  d76 : d7 = true → d6 = true
  j : w.heap[gj]? = some (.cells (if d8 then noRow else old).toArray 25 (0, 0))
  e : w.heap[ge]? = some (.cells [if d9 then faultV fb else x].toArray 31 (0, 0))
  r : w.heap[rb]? = some (.cells [Value.int .i64 c, .int .i64 p].toArray 51 (0, 0))
  fr : Kept w0.heap.size [gj, ge] w0 w
  d97 : d9 = true → d7 = true
end
set_option maxRecDepth 100000 in
set_option maxHeartbeats 4000000 in
theorem catch_thrown (c p gj ge : Nat) (old : List Value) (hol : old.length = 4) (w : World) (hje : gj ≠ ge) (hj : w.heap[gj]? = some (.cells old.toArray 25 (0, 0))) (x : Value) (he : w.heap[ge]? = some (.cells [x].toArray 31 (0, 0))) :
    CallsD Tryd.prog 24 #[.pointer (some ⟨gj, 0, none⟩), .pointer (some ⟨ge, 0, none⟩)] (.panicking [{ v := refV c p, recovered := false }]) w fun e u' w' => e = .returned (.tuple #[]) ∧ u' = .panicking [{ v := refV c p, recovered := true }] ∧
      ∃ g, w.heap.size ≤ g ∧ FaultAt g c p w' ∧ w'.heap[ge]? = some (.cells [faultV g].toArray 31 (0, 0)) ∧ w'.heap[gj]? = some (.cells noRow.toArray 25 (0, 0)) ∧ Kept w.heap.size [gj, ge] w w' := by
  have RO := Lib.hid (refusalOf_any c p)
  have HJ := Lib.hid hj
  have HE := Lib.hid he
  clear hj he
  refine callsD_of_wpS Tryd.func24 rfl fun c₀ cs hu => ?_
  apply wpS_seq
  apply wpS_region
  simp [wpOpsS, go_sem, recoverD, hu, Tryd.ntmps24, Exit.thenS]
  change Code.wpS Tryd.prog _ _ { tmps := #[.pointer (some ⟨gj, 0, none⟩), .pointer (some ⟨ge, 0, none⟩), refV c p, undef, refV c p, undef, undef, undef, undef, undef, undef, undef, undef, undef, undef, undef, undef], defers := [] } _ _
  refine wpS_of_wp ?_
  have hq1 := fun w => (neq_ref c p w).1
  have hq2 := fun w => (neq_ref c p w).2
  go_wp2_with (first | (go_at_call 22; refine (RO.out _).mono ?_; rintro e1 w2 ⟨rfl, hb2⟩; have HJ2 := Lib.hid ((hb2.block _ (lt_of_heap HJ.out)).trans HJ.out); have HE2 := Lib.hid ((hb2.block _ (lt_of_heap HE.out)).trans HE.out); have HB2 := Lib.hid hb2; clear hb2 HJ HE; go_frame))
  have h3 := heap_alloc_new w2 (.cells #[Value.int .i64 c, .int .i64 p] 51)
  have B3 : Below w.heap.size w (w2.alloc (.cells #[Value.int .i64 c, .int .i64 p] 51)) := HB2.out.alloc HB2.out.size _
  have hj3 := (Below.heap_alloc w2 (.cells #[Value.int .i64 c, .int .i64 p] 51) gj (lt_of_heap HJ2.out)).trans HJ2.out
  have he3 := (Below.heap_alloc w2 (.cells #[Value.int .i64 c, .int .i64 p] 51) ge (lt_of_heap HE2.out)).trans HE2.out
  have hjr : gj ≠ w2.heap.size := by have := lt_of_heap HJ2.out; omega
  have her : ge ≠ w2.heap.size := by have := lt_of_heap HE2.out; omega
  generalize w2.alloc (.cells #[Value.int .i64 c, .int .i64 p] 51) = w3 at *
  generalize w2.heap.size = rb at *
  clear RO HJ2 HE2 HB2 hq1 hq2
  refine wp_region_inv (by kernel_rfl) (by kernel_rfl) (fun D a' w' => ∃ fb, PC gj ge rb c p old x w3 (D 0) (D 1) (D 2) (D 3) (D 4) (D 5) (D 6) (D 7) (D 8) (D 9) a' w' fb) ?_ ?_ ?_
  · exact ⟨0, { df := rfl, sz_ := rfl, t0 := rfl, t1 := rfl, t3 := rfl, s0 := fun e => (nomatch e), s1 := fun e => (nomatch e), s2 := fun e => (nomatch e), s3 := fun e => (nomatch e), s4 := fun e => (nomatch e), s5 := fun e => (nomatch e), s6 := fun e => (nomatch e), s7 := fun e => (nomatch e), d76 := fun e => (nomatch e), d97 := fun e => (nomatch e), j := hj3, e := he3, r := h3, fr := (Kept.refl _ _ _).drew }⟩
  · intro D a' w' i o hI hoi hDi hdep
    have hi : i < 10 := (Array.getElem?_eq_some_iff.1 hoi).1
    obtain ⟨fb, h⟩ := hI
    by_cases e0 : i = 0
    · subst e0
      obtain rfl : o = { dst := some 9, op := .build 25 #[], type := 25, pos := "json.go:15", after := #[], guard := none } := (Option.some.inj hoi).symm
      refine wpOp_run hoi rfl _ (run_b0 rfl) ?_
      exact ⟨fb, { df := (by rw [put_defers]; exact h.df), sz_ := (by rw [put_size]; exact h.sz_), t0 := (by rw [get_other _ _ (by omega)]; exact h.t0), t1 := (by rw [get_other _ _ (by omega)]; exact h.t1), t3 := (by rw [get_other _ _ (by omega)]; exact h.t3), s0 := fun _ => (by rw [get_same _ _ (by rw [h.sz_]; omega)]), s1 := fun e => (by rw [get_other _ _ (by omega)]; exact h.s1 e), s2 := fun e => (by rw [get_other _ _ (by omega)]; exact h.s2 e), s3 := fun e => (by rw [get_other _ _ (by omega)]; exact h.s3 e), s4 := fun e => (by rw [get_other _ _ (by omega)]; exact h.s4 e), s5 := fun e => (by rw [get_other _ _ (by omega)]; exact h.s5 e), s6 := fun e => (by rw [get_other _ _ (by omega)]; exact h.s6 e), s7 := fun e => (by rw [get_other _ _ (by omega)]; exact h.s7 e), d76 := h.d76, d97 := h.d97, j := h.j, e := h.e, r := h.r, fr := h.fr }⟩
    by_cases e1 : i = 1
    · subst e1
      obtain rfl : o = { dst := some 10, op := .fieldAddr 51 (.tmp 3) 0, type := 0, pos := "json.go:15", after := #[], guard := none } := (Option.some.inj hoi).symm
      refine wpOp_run hoi rfl _ (run_fr (.tmp 3) 0 rb (by omega) rfl h.t3) ?_
      exact ⟨fb, { df := (by rw [put_defers]; exact h.df), sz_ := (by rw [put_size]; exact h.sz_), t0 := (by rw [get_other _ _ (by omega)]; exact h.t0), t1 := (by rw [get_other _ _ (by omega)]; exact h.t1), t3 := (by rw [get_other _ _ (by omega)]; exact h.t3), s0 := fun e => (by rw [get_other _ _ (by omega)]; exact h.s0 e), s1 := fun _ => (by rw [get_same _ _ (by rw [h.sz_]; omega)]), s2 := fun e => (by rw [get_other _ _ (by omega)]; exact h.s2 e), s3 := fun e => (by rw [get_other _ _ (by omega)]; exact h.s3 e), s4 := fun e => (by rw [get_other _ _ (by omega)]; exact h.s4 e), s5 := fun e => (by rw [get_other _ _ (by omega)]; exact h.s5 e), s6 := fun e => (by rw [get_other _ _ (by omega)]; exact h.s6 e), s7 := fun e => (by rw [get_other _ _ (by omega)]; exact h.s7 e), d76 := h.d76, d97 := h.d97, j := h.j, e := h.e, r := h.r, fr := h.fr }⟩
    by_cases e2 : i = 2
    · subst e2
      obtain rfl : o = { dst := some 11, op := .load 27 (.tmp 10), type := 27, pos := "json.go:15", after := #[{ on := 1, ground := .data }], guard := none } := (Option.some.inj hoi).symm
      have d1 : D 1 = true := hdep { on := 1, ground := .data } (by simp) rfl
      refine wpOp_run hoi rfl _ (run_ld 27 (.tmp 10) rb 0 (.int .i64 c) (by intro w; kernel_rfl) rfl (h.s1 d1) (by rw [cell_of_list h.r]; rfl)) ?_
      exact ⟨fb, { df := (by rw [put_defers]; exact h.df), sz_ := (by rw [put_size]; exact h.sz_), t0 := (by rw [get_other _ _ (by omega)]; exact h.t0), t1 := (by rw [get_other _ _ (by omega)]; exact h.t1), t3 := (by rw [get_other _ _ (by omega)]; exact h.t3), s0 := fun e => (by rw [get_other _ _ (by omega)]; exact h.s0 e), s1 := fun e => (by rw [get_other _ _ (by omega)]; exact h.s1 e), s2 := fun _ => (by rw [get_same _ _ (by rw [h.sz_]; omega)]), s3 := fun e => (by rw [get_other _ _ (by omega)]; exact h.s3 e), s4 := fun e => (by rw [get_other _ _ (by omega)]; exact h.s4 e), s5 := fun e => (by rw [get_other _ _ (by omega)]; exact h.s5 e), s6 := fun e => (by rw [get_other _ _ (by omega)]; exact h.s6 e), s7 := fun e => (by rw [get_other _ _ (by omega)]; exact h.s7 e), d76 := h.d76, d97 := h.d97, j := h.j, e := h.e, r := h.r, fr := h.fr }⟩
    by_cases e3 : i = 3
    · subst e3
      obtain rfl : o = { dst := some 12, op := .fieldAddr 51 (.tmp 3) 1, type := 0, pos := "json.go:15", after := #[], guard := none } := (Option.some.inj hoi).symm
      refine wpOp_run hoi rfl _ (run_fr (.tmp 3) 1 rb (by omega) rfl h.t3) ?_
      exact ⟨fb, { df := (by rw [put_defers]; exact h.df), sz_ := (by rw [put_size]; exact h.sz_), t0 := (by rw [get_other _ _ (by omega)]; exact h.t0), t1 := (by rw [get_other _ _ (by omega)]; exact h.t1), t3 := (by rw [get_other _ _ (by omega)]; exact h.t3), s0 := fun e => (by rw [get_other _ _ (by omega)]; exact h.s0 e), s1 := fun e => (by rw [get_other _ _ (by omega)]; exact h.s1 e), s2 := fun e => (by rw [get_other _ _ (by omega)]; exact h.s2 e), s3 := fun _ => (by rw [get_same _ _ (by rw [h.sz_]; omega)]), s4 := fun e => (by rw [get_other _ _ (by omega)]; exact h.s4 e), s5 := fun e => (by rw [get_other _ _ (by omega)]; exact h.s5 e), s6 := fun e => (by rw [get_other _ _ (by omega)]; exact h.s6 e), s7 := fun e => (by rw [get_other _ _ (by omega)]; exact h.s7 e), d76 := h.d76, d97 := h.d97, j := h.j, e := h.e, r := h.r, fr := h.fr }⟩
    by_cases e4 : i = 4
    · subst e4
      obtain rfl : o = { dst := some 13, op := .load 3 (.tmp 12), type := 3, pos := "json.go:15", after := #[{ on := 3, ground := .data }], guard := none } := (Option.some.inj hoi).symm
      have d3 : D 3 = true := hdep { on := 3, ground := .data } (by simp) rfl
      refine wpOp_run hoi rfl _ (run_ld 3 (.tmp 12) rb 1 (.int .i64 p) (by intro w; kernel_rfl) rfl (h.s3 d3) (by rw [cell_of_list h.r]; rfl)) ?_
      exact ⟨fb, { df := (by rw [put_defers]; exact h.df), sz_ := (by rw [put_size]; exact h.sz_), t0 := (by rw [get_other _ _ (by omega)]; exact h.t0), t1 := (by rw [get_other _ _ (by omega)]; exact h.t1), t3 := (by rw [get_other _ _ (by omega)]; exact h.t3), s0 := fun e => (by rw [get_other _ _ (by omega)]; exact h.s0 e), s1 := fun e => (by rw [get_other _ _ (by omega)]; exact h.s1 e), s2 := fun e => (by rw [get_other _ _ (by omega)]; exact h.s2 e), s3 := fun e => (by rw [get_other _ _ (by omega)]; exact h.s3 e), s4 := fun _ => (by rw [get_same _ _ (by rw [h.sz_]; omega)]), s5 := fun e => (by rw [get_other _ _ (by omega)]; exact h.s5 e), s6 := fun e => (by rw [get_other _ _ (by omega)]; exact h.s6 e), s7 := fun e => (by rw [get_other _ _ (by omega)]; exact h.s7 e), d76 := h.d76, d97 := h.d97, j := h.j, e := h.e, r := h.r, fr := h.fr }⟩
    by_cases e5 : i = 5
    · subst e5
      obtain rfl : o = { dst := some 14, op := .build 56 #[(0, .tmp 11), (1, .tmp 13)], type := 56, pos := "json.go:15", after := #[{ on := 2, ground := .data }, { on := 4, ground := .data }], guard := none } := (Option.some.inj hoi).symm
      have d2 : D 2 = true := hdep { on := 2, ground := .data } (by simp) rfl
      have d4 : D 4 = true := hdep { on := 4, ground := .data } (by simp) rfl
      refine wpOp_run hoi rfl _ (run_b1 (.tmp 11) (.tmp 13) c p rfl (h.s2 d2) (h.s4 d4)) ?_
      exact ⟨fb, { df := (by rw [put_defers]; exact h.df), sz_ := (by rw [put_size]; exact h.sz_), t0 := (by rw [get_other _ _ (by omega)]; exact h.t0), t1 := (by rw [get_other _ _ (by omega)]; exact h.t1), t3 := (by rw [get_other _ _ (by omega)]; exact h.t3), s0 := fun e => (by rw [get_other _ _ (by omega)]; exact h.s0 e), s1 := fun e => (by rw [get_other _ _ (by omega)]; exact h.s1 e), s2 := fun e => (by rw [get_other _ _ (by omega)]; exact h.s2 e), s3 := fun e => (by rw [get_other _ _ (by omega)]; exact h.s3 e), s4 := fun e => (by rw [get_other _ _ (by omega)]; exact h.s4 e), s5 := fun _ => (by rw [get_same _ _ (by rw [h.sz_]; omega)]), s6 := fun e => (by rw [get_other _ _ (by omega)]; exact h.s6 e), s7 := fun e => (by rw [get_other _ _ (by omega)]; exact h.s7 e), d76 := h.d76, d97 := h.d97, j := h.j, e := h.e, r := h.r, fr := h.fr }⟩
    by_cases e6 : i = 6
    · subst e6
      obtain rfl : o = { dst := some 15, op := .box 56 (.tmp 14), type := 54, pos := "json.go:15", after := #[{ on := 5, ground := .data }], guard := none } := (Option.some.inj hoi).symm
      have d5 : D 5 = true := hdep { on := 5, ground := .data } (by simp) rfl
      have n7 : D 7 = false := by
        cases hd7 : D 7 with
        | false => rfl
        | true => have := h.d76 hd7; rw [hDi] at this; cases this
      have n9 : D 9 = false := by
        cases hd9 : D 9 with
        | false => rfl
        | true => have := h.d97 hd9; rw [n7] at this; cases this
      have he6' := h.e
      rw [n9] at he6'
      have al : ∀ g, g < w'.heap.size → ∀ {o}, w'.heap[g]? = some o → (w'.alloc (.cells [Value.int .i64 c, .int .i64 p, .nilIface].toArray 56)).heap[g]? = some o := fun g hg o ho => (Below.heap_alloc w' _ g hg).trans ho
      have he6 : (w'.alloc (.cells [Value.int .i64 c, .int .i64 p, .nilIface].toArray 56)).heap[ge]? = some (.cells [if D 9 = true then faultV w'.heap.size else x].toArray 31 (0, 0)) := by
        rw [n9]
        exact al _ (lt_of_heap he6') he6'
      refine wpOp_run hoi rfl _ (run_bx (.tmp 14) c p rfl (h.s5 d5)) ?_
      exact ⟨w'.heap.size, { df := (by rw [put_defers]; exact h.df), sz_ := (by rw [put_size]; exact h.sz_), t0 := (by rw [get_other _ _ (by omega)]; exact h.t0), t1 := (by rw [get_other _ _ (by omega)]; exact h.t1), t3 := (by rw [get_other _ _ (by omega)]; exact h.t3), s0 := fun e => (by rw [get_other _ _ (by omega)]; exact h.s0 e), s1 := fun e => (by rw [get_other _ _ (by omega)]; exact h.s1 e), s2 := fun e => (by rw [get_other _ _ (by omega)]; exact h.s2 e), s3 := fun e => (by rw [get_other _ _ (by omega)]; exact h.s3 e), s4 := fun e => (by rw [get_other _ _ (by omega)]; exact h.s4 e), s5 := fun e => (by rw [get_other _ _ (by omega)]; exact h.s5 e), s6 := fun _ => ⟨(by rw [get_same _ _ (by rw [h.sz_]; omega)]), heap_alloc_new _ _, by have := h.fr.size; omega⟩, s7 := fun e => (by have e2 : D 7 = true := e; rw [n7] at e2; cases e2), d76 := fun _ => rfl, d97 := h.d97, j := al _ (lt_of_heap h.j) h.j, e := he6, r := al _ (lt_of_heap h.r) h.r, fr := h.fr.alloc (by exact h.fr.size) _ }⟩
    by_cases e7 : i = 7
    · subst e7
      obtain rfl : o = { dst := some 16, op := .makeInterface 54 (.tmp 15), type := 31, pos := "json.go:15", after := #[{ on := 6, ground := .data }], guard := none } := (Option.some.inj hoi).symm
      have d6 : D 6 = true := hdep { on := 6, ground := .data } (by simp) rfl
      refine wpOp_run hoi rfl _ (run_mi (.tmp 15) fb rfl (h.s6 d6).1) ?_
      exact ⟨fb, { df := (by rw [put_defers]; exact h.df), sz_ := (by rw [put_size]; exact h.sz_), t0 := (by rw [get_other _ _ (by omega)]; exact h.t0), t1 := (by rw [get_other _ _ (by omega)]; exact h.t1), t3 := (by rw [get_other _ _ (by omega)]; exact h.t3), s0 := fun e => (by rw [get_other _ _ (by omega)]; exact h.s0 e), s1 := fun e => (by rw [get_other _ _ (by omega)]; exact h.s1 e), s2 := fun e => (by rw [get_other _ _ (by omega)]; exact h.s2 e), s3 := fun e => (by rw [get_other _ _ (by omega)]; exact h.s3 e), s4 := fun e => (by rw [get_other _ _ (by omega)]; exact h.s4 e), s5 := fun e => (by rw [get_other _ _ (by omega)]; exact h.s5 e), s6 := fun e => (by rw [get_other _ _ (by omega)]; exact h.s6 e), s7 := fun _ => (by rw [get_same _ _ (by rw [h.sz_]; omega)]), d76 := fun _ => d6, d97 := fun _ => rfl, j := h.j, e := h.e, r := h.r, fr := h.fr }⟩
    by_cases e8 : i = 8
    · subst e8
      obtain rfl : o = { dst := none, op := .store 25 (.tmp 0) (.tmp 9), type := 0, pos := "json.go:15", after := #[{ on := 0, ground := .data }, { on := 0, ground := .phase }, { on := 1, ground := .textOnly .lateStores }, { on := 2, ground := .textOnly .lateStores }, { on := 3, ground := .textOnly .lateStores }, { on := 4, ground := .textOnly .lateStores }, { on := 5, ground := .textOnly .lateStoresUnsure }, { on := 6, ground := .textOnly .lateStoresUnsure }, { on := 7, ground := .textOnly .lateStoresUnsure }], guard := none } := (Option.some.inj hoi).symm
      have d0 : D 0 = true := hdep { on := 0, ground := .data } (by simp) rfl
      have hj8' := h.j
      rw [hDi] at hj8'
      have hlen : noRow.length = old.length := by rw [hol]; rfl
      have hrun := run_st4 (o := { dst := none, op := .store 25 (.tmp 0) (.tmp 9), type := 0, pos := "json.go:15", after := #[{ on := 0, ground := .data }, { on := 0, ground := .phase }, { on := 1, ground := .textOnly .lateStores }, { on := 2, ground := .textOnly .lateStores }, { on := 3, ground := .textOnly .lateStores }, { on := 4, ground := .textOnly .lateStores }, { on := 5, ground := .textOnly .lateStoresUnsure }, { on := 6, ground := .textOnly .lateStoresUnsure }, { on := 7, ground := .textOnly .lateStoresUnsure }], guard := none }) (ρ := a'.eval) (w := w') (.tmp 0) (.tmp 9) gj 0 noRow.toArray rfl h.t0 (h.s0 d0) rfl (by simp [noRow, Value.oneCell']) (there_of_list hj8' (by rw [show (if false = true then noRow else old) = old from rfl, hol]; exact Nat.le_refl _))
      refine wpOp_skip hoi rfl rfl hrun ?_
      have hj8 : (w'.setCells gj 0 noRow.toArray.toList).heap[gj]? = some (.cells (if true then noRow else old).toArray 25 (0, 0)) := by
        have := setCells_list noRow 0 old w' hj8'
        rw [laid_whole old noRow hlen] at this
        exact this
      have k8 : Kept w'.heap.size [gj] w' (w'.setCells gj 0 noRow.toArray.toList) := kept_setCells _ _ _ _
      have hF : ∀ {f : Nat}, FaultAt f c p w' → w3.heap.size ≤ f → FaultAt f c p (w'.setCells gj 0 noRow.toArray.toList) := fun hf h1 => k8.heap hf (lt_of_heap hf) (by have := lt_of_heap hj3; simp; omega)
      exact ⟨fb, { df := h.df, sz_ := h.sz_, t0 := h.t0, t1 := h.t1, t3 := h.t3, s0 := h.s0, s1 := h.s1, s2 := h.s2, s3 := h.s3, s4 := h.s4, s5 := h.s5, s6 := fun e => ⟨(h.s6 e).1, hF (h.s6 e).2.1 (h.s6 e).2.2, (h.s6 e).2.2⟩, s7 := h.s7, d76 := h.d76, d97 := h.d97, j := hj8, e := (k8.heap h.e (lt_of_heap h.e) (by simp; omega)), r := (k8.heap h.r (lt_of_heap h.r) (by simp; omega)), fr := h.fr.trans (k8.mono h.fr.size (fun k _ hk => (by simp at hk; simp [hk]))) }⟩
    by_cases e9 : i = 9
    · subst e9
      obtain rfl : o = { dst := none, op := .store 31 (.tmp 1) (.tmp 16), type := 0, pos := "json.go:15", after := #[{ on := 7, ground := .data }, { on := 8, ground := .chain }, { on := 0, ground := .phase }, { on := 1, ground := .phase }, { on := 2, ground := .phase }, { on := 3, ground := .phase }, { on := 4, ground := .phase }, { on := 5, ground := .phase }, { on := 6, ground := .phase }, { on := 7, ground := .phase }, { on := 8, ground := .phase }], guard := none } := (Option.some.inj hoi).symm
      have d7 : D 7 = true := hdep { on := 7, ground := .data } (by simp) rfl
      have he9' := h.e
      rw [hDi] at he9'
      have hrun := run_se (o := { dst := none, op := .store 31 (.tmp 1) (.tmp 16), type := 0, pos := "json.go:15", after := #[{ on := 7, ground := .data }, { on := 8, ground := .chain }, { on := 0, ground := .phase }, { on := 1, ground := .phase }, { on := 2, ground := .phase }, { on := 3, ground := .phase }, { on := 4, ground := .phase }, { on := 5, ground := .phase }, { on := 6, ground := .phase }, { on := 7, ground := .phase }, { on := 8, ground := .phase }], guard := none }) (ρ := a'.eval) (w := w') (.tmp 1) (.tmp 16) ge 0 fb x rfl h.t1 (h.s7 d7) (by rw [cell_of_list he9']; rfl) (free_of_list he9' 0)
      refine wpOp_skip hoi rfl rfl hrun ?_
      have he9 : (w'.setCell ⟨ge, 0, none⟩ (faultV fb)).heap[ge]? = some (.cells [if true then faultV fb else x].toArray 31 (0, 0)) := set_list he9' 0 _
      have k9 : Kept w'.heap.size [ge] w' (w'.setCell ⟨ge, 0, none⟩ (faultV fb)) := kset ge 0 _
      have hF : ∀ {f : Nat}, FaultAt f c p w' → w3.heap.size ≤ f → FaultAt f c p (w'.setCell ⟨ge, 0, none⟩ (faultV fb)) := fun hf h1 => k9.heap hf (lt_of_heap hf) (by have := lt_of_heap he3; simp; omega)
      exact ⟨fb, { df := h.df, sz_ := h.sz_, t0 := h.t0, t1 := h.t1, t3 := h.t3, s0 := h.s0, s1 := h.s1, s2 := h.s2, s3 := h.s3, s4 := h.s4, s5 := h.s5, s6 := fun e => ⟨(h.s6 e).1, hF (h.s6 e).2.1 (h.s6 e).2.2, (h.s6 e).2.2⟩, s7 := h.s7, d76 := h.d76, d97 := fun _ => d7, j := (k9.heap h.j (lt_of_heap h.j) (by simp; omega)), e := he9, r := (k9.heap h.r (lt_of_heap h.r) (by simp; omega)), fr := h.fr.trans (k9.mono h.fr.size (fun k _ hk => (by simp at hk; simp [hk]))) }⟩
    · exfalso; omega
  · intro D a' w' hI hall
    obtain ⟨fb, h⟩ := hI
    have d6 : D 6 = true := hall 6 (by decide)
    have hjf := h.j
    have hef := h.e
    rw [show D 8 = true from hall 8 (by decide)] at hjf
    rw [show D 9 = true from hall 9 (by decide)] at hef
    refine ⟨h.df, .panicking [{ v := refV c p, recovered := true }], rfl, _, results_none rfl _ _ _, rfl, rfl, fb, Nat.le_trans B3.size (h.s6 d6).2.2, (h.s6 d6).2.1, hef, hjf, ?_⟩
    exact (Kept.of_below B3).trans (h.fr.mono B3.size (fun _ _ h => h))
end Go.Proofs.YthfnlnhehececaaDoor

/- json.Write: what is thrown is handed back. -/
import Derived.Test.YthfnlnhehececaaDoorNWritten
import Derived.Great.BuildSlice
namespace Go.Proofs.YthfnlnhehececaaDoor
open Go Go.RowKit

/-- A one-cell value stored into its variable, in a world that is a letter. -/
theorem wpList_store_v {P : Program} {ops : Array Oper} {rest : List Oper} {o : Oper} {a : Act} {w : World} {Q : Exit → Act → World → Prop} (hgd : o.guard = none) (ty : TypeId) (x y : Operand) (ho : o.op = .store ty x y)
    (g : Nat) (v old : Value) (t : TypeId) (hx : a.eval x = .pointer (some ⟨g, 0, none⟩)) (hy : a.eval y = v) (h1 : v.oneCell' = true) (hg : w.heap[g]? = some (.cells [old].toArray t (0, 0))) (hi : (P.info? ty).map (·.size) = some 1)
    (h : ∀ w', Hid (w'.heap[g]? = some (.cells [v].toArray t (0, 0))) → Hid (Kept w.heap.size [g] w w') → Hid (w'.heap.size = w.heap.size) → wpList P ops Q rest (a.put o.dst undef) w') : wpList P ops Q (o :: rest) a w := by
  subst hy
  refine wpList_store_one hgd ty x y ho g hx h1 t old hg hi (h _ (Lib.hid (setRow_heap w g _ _ t _ hg)) (Lib.hid ?_) (Lib.hid (by simp)))
  exact ⟨rfl, rfl, rfl, by simp, fun k _ hk => setRow_other w g k _ (fun e => hk (by simp [e]))⟩
theorem field_ref (c p : Int) (w : World) : (Instr.field 51 (.agg #[.int .i64 c, .int .i64 p]) 0).run Tryd.prog w = .ok (.int .i64 c) w := by kernel_rfl
theorem neq_ref4 (c p : Nat) (w : World) : (eqGuard .neq 20 (.tmp 4) (.const .nilIface) (refV c p) .nilIface).run Tryd.prog w = .ok () w := by unfold refV; rfl
set_option maxRecDepth 100000 in
set_option maxHeartbeats 4000000 in
theorem wcatch_thrown (c p gs ge : Nat) (w : World) (hse : gs ≠ ge) (x y : Value) (hs : w.heap[gs]? = some (.cells [x].toArray 9 (0, 0))) (he : w.heap[ge]? = some (.cells [y].toArray 27 (0, 0))) :
    CallsD Tryd.prog 21 #[.pointer (some ⟨gs, 0, none⟩), .pointer (some ⟨ge, 0, none⟩)] (.panicking [{ v := refV c p, recovered := false }]) w fun e u' w' => e = .returned (.tuple #[]) ∧ u' = .panicking [{ v := refV c p, recovered := true }] ∧
      w'.heap[gs]? = some (.cells [Value.string (bs [])].toArray 9 (0, 0)) ∧ w'.heap[ge]? = some (.cells [Value.int .i64 c].toArray 27 (0, 0)) ∧ Kept w.heap.size [gs, ge] w w' := by
  have RO := Lib.hid (refusalOf_any c p)
  have HS := Lib.hid hs
  have HE := Lib.hid he
  have FR := fun w => field_ref c p w
  clear hs he
  refine callsD_of_wpS Tryd.func21 rfl fun c₀ cs hu => ?_
  apply wpS_seq
  apply wpS_region
  simp [wpOpsS, go_sem, recoverD, hu, Tryd.ntmps21, Exit.thenS]
  change Code.wpS Tryd.prog _ _ { tmps := #[.pointer (some ⟨gs, 0, none⟩), .pointer (some ⟨ge, 0, none⟩), refV c p, refV c p, undef, undef, undef, undef, undef], defers := [] } _ _
  refine wpS_of_wp ?_
  have hq1 := fun w => neq_ref4 c p w
  have hq2 := fun w => (neq_ref c p w).2
  go_wp2_with (first | (go_at_call 22; refine (RO.out _).mono ?_; rintro e1 w2 ⟨rfl, hb2⟩; have HS2 := Lib.hid ((hb2.block _ (lt_of_heap HS.out)).trans HS.out); have HE2 := Lib.hid ((hb2.block _ (lt_of_heap HE.out)).trans HE.out); have HB2 := Lib.hid hb2; clear hb2; go_frame) | (refine wpList_store_v (w := w2) rfl 9 _ _ rfl gs (.string ⟨#[]⟩) x 9 rfl rfl rfl HS2.out (by kernel_rfl) ?_; intro w3 hg3 hk3 hs3; have HE3 := Lib.hid (hk3.out.heap HE2.out (lt_of_heap HE2.out) (by simp; omega)); go_frame) | (refine wpList_store_v (w := w3) rfl 27 _ _ rfl ge (.int .i64 c) y 27 rfl rfl rfl HE3.out (by kernel_rfl) ?_; intro w4 hg4 hk4 hs4; have HS4 := Lib.hid (hk4.out.heap hg3.out (lt_of_heap hg3.out) (by simp; omega)); go_frame))
  refine ⟨rfl, .panicking [{ v := refV c p, recovered := true }], rfl, _, results_none rfl _ _ _, rfl, rfl, ?_, hg4.out, ?_⟩
  · rw [HS4.out, bs_nil]
  · exact ((Kept.of_below HB2.out).trans (hk3.out.mono HB2.out.size (fun k _ hk => by simp at hk ⊢; exact Or.inl hk))).trans (hk4.out.mono (by have := HB2.out.size; have := hk3.out.size; omega) (fun k _ hk => by simp at hk ⊢; exact Or.inr hk))
theorem results_two1 {fn : Func} {p q : Tmp} (h : fn.results = #[.cell p 9, .cell q 27]) (tmps : Array Value) (w : World) (g ge : Nat) (x y : Value) (hp : tmps.getD p undef = .pointer (some ⟨g, 0, none⟩)) (hq : tmps.getD q undef = .pointer (some ⟨ge, 0, none⟩))
    (hg : w.heap[g]? = some (.cells [x].toArray 9 (0, 0))) (hge : w.heap[ge]? = some (.cells [y].toArray 27 (0, 0))) : (results fn tmps).run Tryd.prog w = .ok (.tuple #[x, y]) w := by
  have hp' : tmps[p]?.getD undef = .pointer (some ⟨g, 0, none⟩) := by simpa using hp
  have hq' : tmps[q]?.getD undef = .pointer (some ⟨ge, 0, none⟩) := by simpa using hq
  have h1 : (isAgg 9).run Tryd.prog w = .ok false w := by kernel_rfl
  have h2 : (isAgg 27).run Tryd.prog w = .ok false w := by kernel_rfl
  have h3 : w.cell? ⟨g, 0, none⟩ = some x := by rw [cell_of_list hg]; rfl
  have h4 : w.cell? ⟨ge, 0, none⟩ = some y := by rw [cell_of_list hge]; rfl
  have h5 : (loadVar 9 ⟨g, 0, none⟩).run Tryd.prog w = .ok x w := by
    unfold loadVar
    simp [h1, h3, go_sem]
  have h6 : (loadVar 27 ⟨ge, 0, none⟩).run Tryd.prog w = .ok y w := by
    unfold loadVar
    simp [h2, h4, go_sem]
  simp [results, h, hp', hq', asAddr, h5, h6]
theorem alloc_str (w : World) : (Instr.alloc 9 true (.tuple #[])).run Tryd.prog w = .ok (.pointer (some ⟨w.heap.size, 0, none⟩)) (w.alloc (.cells [Value.string ⟨#[]⟩].toArray 9)) := by kernel_rfl
theorem alloc_errno (w : World) : (Instr.alloc 27 true (.tuple #[])).run Tryd.prog w = .ok (.pointer (some ⟨w.heap.size, 0, none⟩)) (w.alloc (.cells [Value.int .i64 0].toArray 27)) := by kernel_rfl
/-- The value and the two results lie. -/
theorem write_laid {w w1 w2 w3 : World} {s : ByteArray} {k : Int} {nv kv x : Value} (hg1 : Hid (w1.heap[w.heap.size]? = some (.cells #[.int .i64 k, .string s, nv, kv] 25 (0, 0)))) (hb1 : Hid (Below w.heap.size w w1)) (hs1 : Hid (w1.heap.size = w.heap.size + 1)) (hg2 : Hid (w2.heap[w1.heap.size]? = some (.cells [x].toArray 9 (0, 0)))) (hb2 : Hid (Below w1.heap.size w1 w2)) (hs2 : Hid (w2.heap.size = w1.heap.size + 1)) (hb3 : Hid (Below w2.heap.size w2 w3)) (hs3 : Hid (w3.heap.size = w2.heap.size + 1)) :
    Hid (w3.heap[w.heap.size]? = some (.cells #[.int .i64 k, .string s, nv, kv] 25 (0, 0))) ∧ Hid (w3.heap[w1.heap.size]? = some (.cells [x].toArray 9 (0, 0))) ∧ Hid (Below w.heap.size w w3) ∧ Hid (w.heap.size < w1.heap.size ∧ w1.heap.size < w2.heap.size ∧ w2.heap.size < w3.heap.size) := by
  have e1 := hs1.out
  have e2 := hs2.out
  have e3 := hs3.out
  refine ⟨Lib.hid ?_, Lib.hid ?_, Lib.hid ((hb1.out.trans (hb2.out.mono (by omega))).trans (hb3.out.mono (by omega))), Lib.hid ⟨by omega, by omega, by omega⟩⟩
  · rw [hb3.out.block _ (by omega), hb2.out.block _ (by omega)]; exact hg1.out
  · rw [hb3.out.block _ (by omega)]; exact hg2.out
set_option maxRecDepth 100000 in
set_option maxHeartbeats 4000000 in
theorem write_any (j : Js.J) (v : Value) (B : Nat) (w : World) (hf : Js.Fit j) (hat : At w (· < B) j v) (hB : B ≤ w.heap.size) (hT : Tb w) : Calls Tryd.prog 9 #[v] w (OutR w (Js.write j)) := by
  have C1 := Lib.hid (fun (u : World) (hu : Below w.heap.size w u) => written_any j v B u hf (hat.low hu hB) (Nat.le_trans hB hu.size) (hT.below hu))
  generalize Js.write j = R at *
  obtain ⟨k, t, ns, ks⟩ := j
  obtain ⟨nv, kv, vs, rfl, _⟩ := hat.jv_
  have BXL := fun w => box_json k t nv kv w
  clear hat hf hT
  unfold jv jrow at *
  generalize bs t = s at *
  cases R with
  | ok X =>
    go_enter_defers Tryd.func9, Tryd.ntmps9
    go_wp2_with (first | (refine wpList_box_any (w := w) rfl _ rfl _ _ rfl BXL ?_; intro w1 hg1 hb1 hs1; go_frame) | (refine wpList_alloc_v (w := w1) rfl 9 rfl _ alloc_str ?_; intro w2 hg2 hb2 hs2; go_frame) | (refine wpList_alloc_v (w := w2) rfl 27 rfl _ alloc_errno ?_; intro w3 hg3 hb3 hs3; obtain ⟨L1, L2, B3, N3⟩ := write_laid hg1 hb1 hs1 hg2 hb2 hs2 hb3 hs3; obtain ⟨d0, d1, d2, d3⟩ := box_cells L1; go_frame) | (go_at_call 23; refine (C1.out w3 B3.out).mono ?_; rintro ex w4 ⟨rfl, hb4⟩; have G4 := Lib.hid ((hb4.block _ (lt_of_heap L2.out)).trans L2.out); have E4 := Lib.hid ((hb4.block _ (lt_of_heap hg3.out)).trans hg3.out); have B4 := Lib.hid (B3.out.trans (hb4.mono B3.out.size)); clear hb4; go_frame) | (refine wpList_store_v (w := w4) rfl 9 _ _ rfl w1.heap.size (.string (bs X)) _ 9 rfl rfl rfl G4.out (by kernel_rfl) ?_; intro w5 hg5 hk5 hs5; have E5 := Lib.hid (hk5.out.heap E4.out (lt_of_heap E4.out) (by have := N3.out; simp; omega)); go_frame) | (refine wpList_store_v (w := w5) rfl 27 _ _ rfl w2.heap.size (.int .i64 0) _ 27 rfl rfl rfl E5.out (by kernel_rfl) ?_; intro w6 hg6 hk6 hs6; have G6 := Lib.hid (hk6.out.heap hg5.out (lt_of_heap hg5.out) (by have := N3.out; simp; omega)); go_frame))
    refine leaves_cons (f := 21) (args := #[.pointer (some ⟨w1.heap.size, 0, none⟩), .pointer (some ⟨w2.heap.size, 0, none⟩)]) (by simp) (by simp [go_sem]) ?_
    refine (wcatch_idle _ _ _).mono ?_
    rintro e u' w'' ⟨rfl, rfl, rfl⟩
    have n3 := N3.out
    exact ⟨_, results_two1 rfl _ _ _ _ _ _ rfl rfl G6.out hg6.out, rfl, below_kept (below_kept B4.out hk5.out (by omega) (by have := B4.out.size; omega)) hk6.out (by omega) (by have := B4.out.size; have := hs5.out; omega)⟩
  | bad c =>
    go_enter_defers Tryd.func9, Tryd.ntmps9
    go_wp2_with (first | (refine wpList_box_any (w := w) rfl _ rfl _ _ rfl BXL ?_; intro w1 hg1 hb1 hs1; go_frame) | (refine wpList_alloc_v (w := w1) rfl 9 rfl _ alloc_str ?_; intro w2 hg2 hb2 hs2; go_frame) | (refine wpList_alloc_v (w := w2) rfl 27 rfl _ alloc_errno ?_; intro w3 hg3 hb3 hs3; obtain ⟨L1, L2, B3, N3⟩ := write_laid hg1 hb1 hs1 hg2 hb2 hs2 hb3 hs3; obtain ⟨d0, d1, d2, d3⟩ := box_cells L1; go_frame) | (go_at_call 23; refine (C1.out w3 B3.out).mono ?_; rintro ex w4 ⟨rfl, hb4⟩; have G4 := Lib.hid ((hb4.block _ (lt_of_heap L2.out)).trans L2.out); have E4 := Lib.hid ((hb4.block _ (lt_of_heap hg3.out)).trans hg3.out); have B4 := Lib.hid (B3.out.trans (hb4.mono B3.out.size)); clear hb4; go_frame))
    have n3 := N3.out
    refine leaves_cons (f := 21) (args := #[.pointer (some ⟨w1.heap.size, 0, none⟩), .pointer (some ⟨w2.heap.size, 0, none⟩)]) (by simp) (by simp [go_sem]) ?_
    refine (wcatch_thrown c 0 w1.heap.size w2.heap.size w4 (by omega) _ _ G4.out E4.out).mono ?_
    rintro e u' w'' ⟨rfl, rfl, hgs, hge, hk5⟩
    refine ⟨_, results_two1 rfl _ _ _ _ _ _ rfl rfl hgs hge, rfl, ?_⟩
    exact ((Kept.of_below (ws := [w1.heap.size, w2.heap.size]) B4.out).trans (hk5.mono B4.out.size (fun _ _ h => h))).below (by simp; omega)
end Go.Proofs.YthfnlnhehececaaDoor

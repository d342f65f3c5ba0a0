/- The program asks whether a value is right. -/
import Derived.Test.YthfnlnhehececaaDoorNRt3
namespace Go.Proofs.YthfnlnhehececaaDoor
open Go Go.RowKit

theorem box_json (k : Int) (t : List UInt8) (nv kv : Value) (w : World) : (Instr.box 25 (jv k t nv kv)).run Tryd.prog w = .ok (.pointer (some ⟨w.heap.size, 0, none⟩)) (w.alloc (.cells (jrow k t nv kv).toArray 25)) := by
  unfold jv jrow
  generalize bs t = s
  kernel_rfl
/-- A value that came is put into a variable. -/
theorem wpList_box_json {w : World} {ops : Array Oper} {rest : List Oper} {o : Oper} {a : Act} {Q : Exit → Act → World → Prop} (hgd : o.guard = none) (x : Operand) (ho : o.op = .box 25 x) (k : Int) (t : List UInt8) (nv kv : Value) (hx : a.eval x = jv k t nv kv)
    (h : ∀ w', Hid (w'.heap[w.heap.size]? = some (.cells (jrow k t nv kv).toArray 25 (0, 0))) → Hid (Below w.heap.size w w') → Hid (w'.heap.size = w.heap.size + 1) → wpList Tryd.prog ops Q rest (a.put o.dst (.pointer (some ⟨w.heap.size, 0, none⟩))) w') : wpList Tryd.prog ops Q (o :: rest) a w := by
  refine wpList_run hgd (.pointer (some ⟨w.heap.size, 0, none⟩)) _ ?_ (h (w.alloc (.cells (jrow k t nv kv).toArray 25)) (Lib.hid (heap_alloc_new _ _)) (Lib.hid ((Below.refl _ _).alloc (Nat.le_refl _) _)) (Lib.hid (by simp)))
  unfold execOp
  simp only [ho, hx, Sem.run_bind, box_json, Result.andThen_ok]
  rfl
theorem wpList_box_any {P : Program} {w : World} {ops : Array Oper} {rest : List Oper} {o : Oper} {a : Act} {Q : Exit → Act → World → Prop} (hgd : o.guard = none) (x : Operand) {T : TypeId} (ho : o.op = .box T x) (v : Value) (cs : Array Value) (hx : a.eval x = v)
    (hb : ∀ w : World, (Instr.box T v).run P w = .ok (.pointer (some ⟨w.heap.size, 0, none⟩)) (w.alloc (.cells cs T)))
    (h : ∀ w', Hid (w'.heap[w.heap.size]? = some (.cells cs T (0, 0))) → Hid (Below w.heap.size w w') → Hid (w'.heap.size = w.heap.size + 1) → wpList P ops Q rest (a.put o.dst (.pointer (some ⟨w.heap.size, 0, none⟩))) w') : wpList P ops Q (o :: rest) a w := by
  refine wpList_run hgd (.pointer (some ⟨w.heap.size, 0, none⟩)) _ ?_ (h (w.alloc (.cells cs T)) (Lib.hid (heap_alloc_new _ _)) (Lib.hid ((Below.refl _ _).alloc (Nat.le_refl _) _)) (Lib.hid (by simp)))
  unfold execOp
  simp only [ho, hx, Sem.run_bind, hb, Result.andThen_ok]
  rfl
theorem bs_empty (t : List UInt8) : ((bs t).toList == (⟨#[]⟩ : ByteArray).toList) = t.isEmpty := by
  rw [bs_nil, ByteArray.toList_eq, ByteArray.toList_eq, bs_list, bs_list]
  cases t <;> rfl
/-- What lies behind the beginning. -/
theorem right_laid {w w1 : World} {cb n : Nat} {k : Int} {s : ByteArray} {nv kv : Value} (hc : Hid (Cen w cb n)) (hg1 : Hid (w1.heap[w.heap.size]? = some (.cells #[.int .i64 k, .string s, nv, kv] 25 (0, 0)))) (hb1 : Hid (Below w.heap.size w w1)) :
    ¬ cb = w.heap.size ∧ ¬ w.heap.size = cb ∧ w1.cell? ⟨cb, 0, none⟩ = some (.int .i64 n) ∧ w1.frozen? ⟨cb, 0, none⟩ = false ∧ w1.cell? ⟨w.heap.size, 0, none⟩ = some (.int .i64 k) ∧ w1.cell? ⟨w.heap.size, 1, none⟩ = some (.string s) ∧ w1.cell? ⟨w.heap.size, 2, none⟩ = some nv ∧ w1.cell? ⟨w.heap.size, 3, none⟩ = some kv ∧ Hid (Cen w1 cb n) := by
  have hl := lt_of_heap hc.out
  have hc1 : Cen w1 cb n := (hb1.out.block cb hl).trans hc.out
  have hg := cell_of_list (cs := [.int .i64 k, .string s, nv, kv]) hg1.out
  exact ⟨by omega, by omega, by rw [cell_of_list hc1]; rfl, free_of_list hc1 0, by rw [hg]; rfl, by rw [hg]; rfl, by rw [hg]; rfl, by rw [hg]; rfl, Lib.hid hc1⟩
theorem right_end {w w1 : World} {cb n : Nat} (hb1 : Hid (Below w.heap.size w w1)) (C1 : Hid (Cen w1 cb n)) (_n1 : ¬ cb = w.heap.size) (m : Nat) : Cen ((w1.setCell ⟨cb, 0, none⟩ (.int .i64 ((n : Int) + 1))).drewN m) cb (n + 1) ∧ Kept w.heap.size [cb] w ((w1.setCell ⟨cb, 0, none⟩ (.int .i64 ((n : Int) + 1))).drewN m) := by
  refine ⟨?_, ((Kept.of_below hb1.out).trans ((kset cb 0 _).mono hb1.out.size (fun _ _ h => h))).drewN m⟩
  exact set_list C1.out 0 _
set_option maxRecDepth 100000 in
set_option maxHeartbeats 8000000 in
theorem isRight_k1 (k : Int) (t : List UInt8) (ns : List (List UInt8)) (ks : List Js.J) (nv kv : Value) (n d cb : Nat) (w : World) (hn : n ≤ 7999) (a1 a2 : Option Addr) (c1 c2 : Nat) (hnv : nv = .slice a1 ns.length c1) (hkv : kv = .slice a2 ks.length c2) (hc : Cen w cb n) (hk : k = 1) :
    Calls Tryd.prog 40 #[.pointer (some ⟨cb, 0, none⟩), jv k t nv kv, .int .i64 d] w fun e w' => e = .returned (.bool (t.isEmpty && ns.isEmpty && ks.isEmpty)) ∧ Cen w' cb (n + 1) ∧ Kept w.heap.size [cb] w w' := by
  subst hnv hkv
  subst hk
  have HC := Lib.hid hc
  have hcl := lt_of_heap hc
  have BX := fun w => box_json 1 t (.slice a1 ns.length c1) (.slice a2 ks.length c2) w
  have ht : t.isEmpty = decide ((bs t).toList = []) := by rw [ByteArray.toList_eq, bs_list]; cases t <;> rfl
  have hne : ns.isEmpty = decide (ns.length = 0) := by cases ns <;> rfl
  have hke : ks.isEmpty = decide (ks.length = 0) := by cases ks <;> rfl
  try rw [ht]
  try rw [hne]
  try rw [hke]
  have hN : ((ns.length : Int) == 0) = decide (ns.length = 0) := by rw [Bool.eq_iff_iff]; simp
  have hK : ((ks.length : Int) == 0) = decide (ks.length = 0) := by rw [Bool.eq_iff_iff]; simp
  unfold jv jrow at *
  generalize bs t = s at *
  generalize ns.length = N at *
  generalize ks.length = K at *
  clear hc ht hne hke
  go_enter Tryd.func40, Tryd.ntmps40
  go_wp2_with (first | (refine wpList_box_any rfl _ rfl _ _ rfl BX ?_; intro w1 hg1 hb1 hs1; obtain ⟨n1, n2, e1, e2, e3, e4, e5, e6, C1⟩ := right_laid HC hg1 hb1; go_frame))
  go_quiet (fail)
  go_wp2_with fail
  all_goals
    obtain ⟨r1, r2⟩ := right_end hb1 C1 n1 nq
    go_ret
    refine ⟨?_, r1, r2⟩
    simp_all
set_option maxRecDepth 100000 in
set_option maxHeartbeats 8000000 in
theorem isRight_k2 (k : Int) (t : List UInt8) (ns : List (List UInt8)) (ks : List Js.J) (nv kv : Value) (n d cb : Nat) (w : World) (hn : n ≤ 7999) (a1 a2 : Option Addr) (c1 c2 : Nat) (hnv : nv = .slice a1 ns.length c1) (hkv : kv = .slice a2 ks.length c2) (hc : Cen w cb n) (hk : k = 2) :
    Calls Tryd.prog 40 #[.pointer (some ⟨cb, 0, none⟩), jv k t nv kv, .int .i64 d] w fun e w' => e = .returned (.bool (t.isEmpty && ns.isEmpty && ks.isEmpty)) ∧ Cen w' cb (n + 1) ∧ Kept w.heap.size [cb] w w' := by
  subst hnv hkv
  subst hk
  have HC := Lib.hid hc
  have hcl := lt_of_heap hc
  have BX := fun w => box_json 2 t (.slice a1 ns.length c1) (.slice a2 ks.length c2) w
  have ht : t.isEmpty = decide ((bs t).toList = []) := by rw [ByteArray.toList_eq, bs_list]; cases t <;> rfl
  have hne : ns.isEmpty = decide (ns.length = 0) := by cases ns <;> rfl
  have hke : ks.isEmpty = decide (ks.length = 0) := by cases ks <;> rfl
  try rw [ht]
  try rw [hne]
  try rw [hke]
  have hN : ((ns.length : Int) == 0) = decide (ns.length = 0) := by rw [Bool.eq_iff_iff]; simp
  have hK : ((ks.length : Int) == 0) = decide (ks.length = 0) := by rw [Bool.eq_iff_iff]; simp
  unfold jv jrow at *
  generalize bs t = s at *
  generalize ns.length = N at *
  generalize ks.length = K at *
  clear hc ht hne hke
  go_enter Tryd.func40, Tryd.ntmps40
  go_wp2_with (first | (refine wpList_box_any rfl _ rfl _ _ rfl BX ?_; intro w1 hg1 hb1 hs1; obtain ⟨n1, n2, e1, e2, e3, e4, e5, e6, C1⟩ := right_laid HC hg1 hb1; go_frame))
  go_quiet (fail)
  go_wp2_with fail
  all_goals
    obtain ⟨r1, r2⟩ := right_end hb1 C1 n1 nq
    go_ret
    refine ⟨?_, r1, r2⟩
    simp_all
set_option maxRecDepth 100000 in
set_option maxHeartbeats 8000000 in
theorem isRight_k3 (k : Int) (t : List UInt8) (ns : List (List UInt8)) (ks : List Js.J) (nv kv : Value) (n d cb : Nat) (w : World) (hn : n ≤ 7999) (a1 a2 : Option Addr) (c1 c2 : Nat) (hnv : nv = .slice a1 ns.length c1) (hkv : kv = .slice a2 ks.length c2) (hc : Cen w cb n) (hk : k = 3) :
    Calls Tryd.prog 40 #[.pointer (some ⟨cb, 0, none⟩), jv k t nv kv, .int .i64 d] w fun e w' => e = .returned (.bool (t.isEmpty && ns.isEmpty && ks.isEmpty)) ∧ Cen w' cb (n + 1) ∧ Kept w.heap.size [cb] w w' := by
  subst hnv hkv
  subst hk
  have HC := Lib.hid hc
  have hcl := lt_of_heap hc
  have BX := fun w => box_json 3 t (.slice a1 ns.length c1) (.slice a2 ks.length c2) w
  have ht : t.isEmpty = decide ((bs t).toList = []) := by rw [ByteArray.toList_eq, bs_list]; cases t <;> rfl
  have hne : ns.isEmpty = decide (ns.length = 0) := by cases ns <;> rfl
  have hke : ks.isEmpty = decide (ks.length = 0) := by cases ks <;> rfl
  try rw [ht]
  try rw [hne]
  try rw [hke]
  have hN : ((ns.length : Int) == 0) = decide (ns.length = 0) := by rw [Bool.eq_iff_iff]; simp
  have hK : ((ks.length : Int) == 0) = decide (ks.length = 0) := by rw [Bool.eq_iff_iff]; simp
  unfold jv jrow at *
  generalize bs t = s at *
  generalize ns.length = N at *
  generalize ks.length = K at *
  clear hc ht hne hke
  go_enter Tryd.func40, Tryd.ntmps40
  go_wp2_with (first | (refine wpList_box_any rfl _ rfl _ _ rfl BX ?_; intro w1 hg1 hb1 hs1; obtain ⟨n1, n2, e1, e2, e3, e4, e5, e6, C1⟩ := right_laid HC hg1 hb1; go_frame))
  go_quiet (fail)
  go_wp2_with fail
  all_goals
    obtain ⟨r1, r2⟩ := right_end hb1 C1 n1 nq
    go_ret
    refine ⟨?_, r1, r2⟩
    simp_all
set_option maxRecDepth 100000 in
set_option maxHeartbeats 8000000 in
theorem isRight_k4 (k : Int) (t : List UInt8) (ns : List (List UInt8)) (ks : List Js.J) (nv kv : Value) (n d cb : Nat) (w : World) (hn : n ≤ 7999) (a1 a2 : Option Addr) (c1 c2 : Nat) (hnv : nv = .slice a1 ns.length c1) (hkv : kv = .slice a2 ks.length c2) (hc : Cen w cb n) (hk : k = 4) :
    Calls Tryd.prog 40 #[.pointer (some ⟨cb, 0, none⟩), jv k t nv kv, .int .i64 d] w fun e w' => e = .returned (.bool (ns.isEmpty && ks.isEmpty)) ∧ Cen w' cb (n + 1) ∧ Kept w.heap.size [cb] w w' := by
  subst hnv hkv
  subst hk
  have HC := Lib.hid hc
  have hcl := lt_of_heap hc
  have BX := fun w => box_json 4 t (.slice a1 ns.length c1) (.slice a2 ks.length c2) w
  have ht : t.isEmpty = decide ((bs t).toList = []) := by rw [ByteArray.toList_eq, bs_list]; cases t <;> rfl
  have hne : ns.isEmpty = decide (ns.length = 0) := by cases ns <;> rfl
  have hke : ks.isEmpty = decide (ks.length = 0) := by cases ks <;> rfl
  try rw [ht]
  try rw [hne]
  try rw [hke]
  have hN : ((ns.length : Int) == 0) = decide (ns.length = 0) := by rw [Bool.eq_iff_iff]; simp
  have hK : ((ks.length : Int) == 0) = decide (ks.length = 0) := by rw [Bool.eq_iff_iff]; simp
  unfold jv jrow at *
  generalize bs t = s at *
  generalize ns.length = N at *
  generalize ks.length = K at *
  clear hc ht hne hke
  go_enter Tryd.func40, Tryd.ntmps40
  go_wp2_with (first | (refine wpList_box_any rfl _ rfl _ _ rfl BX ?_; intro w1 hg1 hb1 hs1; obtain ⟨n1, n2, e1, e2, e3, e4, e5, e6, C1⟩ := right_laid HC hg1 hb1; go_frame))
  go_quiet (fail)
  go_wp2_with fail
  all_goals
    obtain ⟨r1, r2⟩ := right_end hb1 C1 n1 nq
    go_ret
    refine ⟨?_, r1, r2⟩
    simp_all
set_option maxRecDepth 100000 in
set_option maxHeartbeats 8000000 in
theorem isRight_no (k : Int) (t : List UInt8) (ns : List (List UInt8)) (ks : List Js.J) (nv kv : Value) (n d cb : Nat) (w : World) (hn : n ≤ 7999) (a1 a2 : Option Addr) (c1 c2 : Nat) (hnv : nv = .slice a1 ns.length c1) (hkv : kv = .slice a2 ks.length c2) (hc : Cen w cb n) (h1 : ¬ k = 1) (h2 : ¬ k = 2) (h3 : ¬ k = 3) (h4 : ¬ k = 4) (h5 : ¬ k = 5) (h6 : ¬ k = 6) (h7 : ¬ k = 7) :
    Calls Tryd.prog 40 #[.pointer (some ⟨cb, 0, none⟩), jv k t nv kv, .int .i64 d] w fun e w' => e = .returned (.bool (false)) ∧ Cen w' cb (n + 1) ∧ Kept w.heap.size [cb] w w' := by
  subst hnv hkv
  have HC := Lib.hid hc
  have hcl := lt_of_heap hc
  have BX := fun w => box_json k t (.slice a1 ns.length c1) (.slice a2 ks.length c2) w
  have ht : t.isEmpty = decide ((bs t).toList = []) := by rw [ByteArray.toList_eq, bs_list]; cases t <;> rfl
  have hne : ns.isEmpty = decide (ns.length = 0) := by cases ns <;> rfl
  have hke : ks.isEmpty = decide (ks.length = 0) := by cases ks <;> rfl
  try rw [ht]
  try rw [hne]
  try rw [hke]
  have hN : ((ns.length : Int) == 0) = decide (ns.length = 0) := by rw [Bool.eq_iff_iff]; simp
  have hK : ((ks.length : Int) == 0) = decide (ks.length = 0) := by rw [Bool.eq_iff_iff]; simp
  unfold jv jrow at *
  generalize bs t = s at *
  generalize ns.length = N at *
  generalize ks.length = K at *
  clear hc ht hne hke
  go_enter Tryd.func40, Tryd.ntmps40
  go_wp2_with (first | (refine wpList_box_any rfl _ rfl _ _ rfl BX ?_; intro w1 hg1 hb1 hs1; obtain ⟨n1, n2, e1, e2, e3, e4, e5, e6, C1⟩ := right_laid HC hg1 hb1; go_frame))
  go_quiet (fail)
  go_wp2_with fail
  all_goals
    obtain ⟨r1, r2⟩ := right_end hb1 C1 n1 nq
    go_ret
    refine ⟨?_, r1, r2⟩
    simp_all
end Go.Proofs.YthfnlnhehececaaDoor

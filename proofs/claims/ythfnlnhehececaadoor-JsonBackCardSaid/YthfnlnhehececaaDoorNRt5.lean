/- The program asks whether a value is right: those with texts, lists, objects. -/
import Derived.Test.YthfnlnhehececaaDoorNRt4
namespace Go.Proofs.YthfnlnhehececaaDoor
open Go Go.RowKit

theorem right_after {w w1 w2 : World} {cb n m : Nat} {k : Int} {s : ByteArray} {nv kv : Value} (hg1 : Hid (w1.heap[w.heap.size]? = some (.cells #[.int .i64 k, .string s, nv, kv] 25 (0, 0)))) (n2 : ¬ w.heap.size = cb)
    (hb2 : Below ((w1.setCell ⟨cb, 0, none⟩ (.int .i64 ((n : Int) + 1))).drewN m).heap.size ((w1.setCell ⟨cb, 0, none⟩ (.int .i64 ((n : Int) + 1))).drewN m) w2) : w2.cell? ⟨w.heap.size, 3, none⟩ = some kv := by
  have hk := (kset (w := w1) cb 0 (.int .i64 ((n : Int) + 1))).drewN m
  have h1 := hk.heap hg1.out (lt_of_heap hg1.out) (by simp; omega)
  have h2 := (hb2.block w.heap.size (lt_of_heap h1)).trans h1
  rw [cell_of_list (cs := [.int .i64 k, .string s, nv, kv]) h2]
  rfl
set_option maxRecDepth 100000 in
set_option maxHeartbeats 8000000 in
theorem isRight_k5 (k : Int) (t : List UInt8) (ns : List (List UInt8)) (ks : List Js.J) (nv kv : Value) (n d cb : Nat) (w : World) (hn : n ≤ 7999) (a1 a2 : Option Addr) (c1 c2 : Nat) (hnv : nv = .slice a1 ns.length c1) (hkv : kv = .slice a2 ks.length c2) (hc : Cen w cb n) (hk : k = 5) (ht8 : t.length ≤ 140737488355328) (hT : Tb w) (hi : Hi cb) :
    Calls Tryd.prog 40 #[.pointer (some ⟨cb, 0, none⟩), jv k t nv kv, .int .i64 d] w fun e w' => e = .returned (.bool (ns.isEmpty && ks.isEmpty && Js.utf t)) ∧ Cen w' cb (n + 1) ∧ Kept w.heap.size [cb] w w' := by
  subst hnv hkv
  subst hk
  have V := Lib.hid (fun v hT => k_utf8_ValidString (bs t) v (by rw [bs_size]; omega) hT)
  rw [bs_list, Js.utf_valid _ _ (Nat.le_refl _)] at V
  generalize Js.utf t = ut at *
  have HT := Lib.hid hT
  clear hT
  have HC := Lib.hid hc
  have hcl := lt_of_heap hc
  have BX := fun w => box_json 5 t (.slice a1 ns.length c1) (.slice a2 ks.length c2) w
  have ht : t.isEmpty = decide ((bs t).toList = []) := by rw [ByteArray.toList_eq, bs_list]; cases t <;> rfl
  have hne : ns.isEmpty = decide (ns.length = 0) := by cases ns <;> rfl
  have hke : ks.isEmpty = decide (ks.length = 0) := by cases ks <;> rfl
  try rw [ht]
  try rw [hne]
  try rw [hke]
  have hN : ((ns.length : Int) == 0) = decide (ns.length = 0) := by rw [Bool.eq_iff_iff]; simp
  have hK : ((ks.length : Int) == 0) = decide (ks.length = 0) := by rw [Bool.eq_iff_iff]; simp
  unfold jv jrow at *
  generalize bs t = s at *
  generalize ns.length = N at *
  generalize ks.length = K at *
  clear hc ht hne hke
  go_enter Tryd.func40, Tryd.ntmps40
  go_wp2_with (first | (refine wpList_box_any rfl _ rfl _ _ rfl BX ?_; intro w1 hg1 hb1 hs1; obtain ⟨n1, n2, e1, e2, e3, e4, e5, e6, C1⟩ := right_laid HC hg1 hb1; go_frame))
  go_quiet (fail)
  go_wp2_with (first | (go_at_call 65; refine (V.out _ (HT.out.keep hi (right_end hb1 C1 n1 nq).2)).mono ?_; rintro ex w2 ⟨rfl, hb2⟩; go_frame))
  all_goals
    obtain ⟨r1, r2⟩ := right_end hb1 C1 n1 nq
    go_ret
    first | (refine ⟨?_, (hb2.block cb (lt_of_heap r1)).trans r1, kb r2 hb2⟩; simp_all) | (refine ⟨?_, r1, r2⟩; simp_all)
set_option maxRecDepth 100000 in
set_option maxHeartbeats 8000000 in
theorem isRight_k6 (k : Int) (t : List UInt8) (ns : List (List UInt8)) (ks : List Js.J) (nv kv : Value) (n d cb : Nat) (w : World) (hn : n ≤ 7999) (a1 a2 : Option Addr) (c1 c2 : Nat) (hnv : nv = .slice a1 ns.length c1) (hkv : kv = .slice a2 ks.length c2) (hc : Cen w cb n) (hk : k = 6) (R : Bool × Nat) (cr : ∀ u, Kept w.heap.size [cb] w u → Cen u cb (n + 1) → Calls Tryd.prog 66 #[.pointer (some ⟨cb, 0, none⟩), kv, .int .i64 ((d : Int) + 1)] u fun e w' => e = .returned (.bool R.1) ∧ Cen w' cb R.2 ∧ Kept u.heap.size [cb] u w') (hd : d ≤ 20) :
    Calls Tryd.prog 40 #[.pointer (some ⟨cb, 0, none⟩), jv k t nv kv, .int .i64 d] w fun e w' => e = .returned (.bool (if t.isEmpty && ns.isEmpty then R.1 else false)) ∧ Cen w' cb (if t.isEmpty && ns.isEmpty then R.2 else n + 1) ∧ Kept w.heap.size [cb] w w' := by
  subst hnv hkv
  subst hk
  have CR := Lib.hid cr
  clear cr
  have HC := Lib.hid hc
  have hcl := lt_of_heap hc
  have BX := fun w => box_json 6 t (.slice a1 ns.length c1) (.slice a2 ks.length c2) w
  have ht : t.isEmpty = decide ((bs t).toList = []) := by rw [ByteArray.toList_eq, bs_list]; cases t <;> rfl
  have hne : ns.isEmpty = decide (ns.length = 0) := by cases ns <;> rfl
  have hke : ks.isEmpty = decide (ks.length = 0) := by cases ks <;> rfl
  try rw [ht]
  try rw [hne]
  try rw [hke]
  have hN : ((ns.length : Int) == 0) = decide (ns.length = 0) := by rw [Bool.eq_iff_iff]; simp
  have hK : ((ks.length : Int) == 0) = decide (ks.length = 0) := by rw [Bool.eq_iff_iff]; simp
  unfold jv jrow at *
  generalize bs t = s at *
  generalize ns.length = N at *
  generalize ks.length = K at *
  clear hc ht hne hke
  go_enter Tryd.func40, Tryd.ntmps40
  go_wp2_with (first | (refine wpList_box_any rfl _ rfl _ _ rfl BX ?_; intro w1 hg1 hb1 hs1; obtain ⟨n1, n2, e1, e2, e3, e4, e5, e6, C1⟩ := right_laid HC hg1 hb1; go_frame))
  go_quiet (fail)
  go_wp2_with (first | (go_at_call 66; refine (CR.out _ (right_end hb1 C1 n1 nq).2 (right_end hb1 C1 n1 nq).1).mono ?_; rintro ex w2 ⟨rfl, hc2, hk2⟩; go_frame))
  all_goals
    obtain ⟨r1, r2⟩ := right_end hb1 C1 n1 nq
    go_ret
    first | (refine ⟨?_, ?_, kk r2 hk2⟩ <;> simp_all) | (refine ⟨?_, ?_, r2⟩ <;> simp_all)
set_option maxRecDepth 100000 in
set_option maxHeartbeats 8000000 in
theorem isRight_k7 (k : Int) (t : List UInt8) (ns : List (List UInt8)) (ks : List Js.J) (nv kv : Value) (n d cb : Nat) (w : World) (hn : n ≤ 7999) (a1 a2 : Option Addr) (c1 c2 : Nat) (hnv : nv = .slice a1 ns.length c1) (hkv : kv = .slice a2 ks.length c2) (hc : Cen w cb n) (hk : k = 7) (R : Bool × Nat) (m : Bool) (cn : ∀ u, Kept w.heap.size [cb] w u → Calls Tryd.prog 67 #[nv, .int .i64 ks.length] u fun e w' => e = .returned (.bool m) ∧ Below u.heap.size u w') (cr : ∀ u, Kept w.heap.size [cb] w u → Cen u cb (n + 1) → Calls Tryd.prog 66 #[.pointer (some ⟨cb, 0, none⟩), kv, .int .i64 ((d : Int) + 1)] u fun e w' => e = .returned (.bool R.1) ∧ Cen w' cb R.2 ∧ Kept u.heap.size [cb] u w') (hd : d ≤ 20) :
    Calls Tryd.prog 40 #[.pointer (some ⟨cb, 0, none⟩), jv k t nv kv, .int .i64 d] w fun e w' => e = .returned (.bool (if t.isEmpty && m then R.1 else false)) ∧ Cen w' cb (if t.isEmpty && m then R.2 else n + 1) ∧ Kept w.heap.size [cb] w w' := by
  subst hnv hkv
  subst hk
  have CR := Lib.hid cr
  have CN := Lib.hid cn
  clear cr cn
  have HC := Lib.hid hc
  have hcl := lt_of_heap hc
  have BX := fun w => box_json 7 t (.slice a1 ns.length c1) (.slice a2 ks.length c2) w
  have ht : t.isEmpty = decide ((bs t).toList = []) := by rw [ByteArray.toList_eq, bs_list]; cases t <;> rfl
  have hne : ns.isEmpty = decide (ns.length = 0) := by cases ns <;> rfl
  have hke : ks.isEmpty = decide (ks.length = 0) := by cases ks <;> rfl
  try rw [ht]
  try rw [hne]
  try rw [hke]
  have hN : ((ns.length : Int) == 0) = decide (ns.length = 0) := by rw [Bool.eq_iff_iff]; simp
  have hK : ((ks.length : Int) == 0) = decide (ks.length = 0) := by rw [Bool.eq_iff_iff]; simp
  unfold jv jrow at *
  generalize bs t = s at *
  generalize ns.length = N at *
  generalize ks.length = K at *
  clear hc ht hne hke
  go_enter Tryd.func40, Tryd.ntmps40
  go_wp2_with (first | (refine wpList_box_any rfl _ rfl _ _ rfl BX ?_; intro w1 hg1 hb1 hs1; obtain ⟨n1, n2, e1, e2, e3, e4, e5, e6, C1⟩ := right_laid HC hg1 hb1; go_frame))
  go_quiet (fail)
  go_wp2_with (first | (go_at_call 67; refine (CN.out _ (right_end hb1 C1 n1 nq).2).mono ?_; rintro ex w2 ⟨rfl, hb2⟩; have g6 := right_after hg1 n2 hb2; go_frame) | (go_at_call 66; refine (CR.out _ (kb (right_end hb1 C1 n1 nq).2 hb2) ((hb2.block cb (lt_of_heap (right_end hb1 C1 n1 nq).1)).trans (right_end hb1 C1 n1 nq).1)).mono ?_; rintro ex w3 ⟨rfl, hc3, hk3⟩; go_frame))
  all_goals
    obtain ⟨r1, r2⟩ := right_end hb1 C1 n1 nq
    go_ret
    first | (refine ⟨?_, ?_, kk (kb r2 hb2) hk3⟩ <;> simp_all; done) | (refine ⟨?_, (hb2.block cb (lt_of_heap r1)).trans r1, kb r2 hb2⟩; simp_all; done) | (exfalso; simp_all; done) | (refine ⟨?_, ?_, r2⟩ <;> simp_all)
end Go.Proofs.YthfnlnhehececaaDoor

/- The program asks whether two values are the same: all of them. -/
import Derived.Test.YthfnlnhehececaaDoorNRt4
namespace Go.Proofs.YthfnlnhehececaaDoor
open Go Go.RowKit

theorem Js.J.ind {P : Js.J → Prop} (h : ∀ k t ns ks, (∀ j ∈ ks, P j) → P (.mk k t ns ks)) : ∀ j, P j
  | .mk k t ns ks => h k t ns ks fun j _ => Js.J.ind h j
theorem cells4 {w : World} {b : Nat} {x y z u : Value} (h : w.heap[b]? = some (.cells #[x, y, z, u] 25 (0, 0))) : w.cell? ⟨b, 0, none⟩ = some x ∧ w.cell? ⟨b, 1, none⟩ = some y ∧ w.cell? ⟨b, 2, none⟩ = some z ∧ w.cell? ⟨b, 3, none⟩ = some u := by
  have hg := cell_of_list (cs := [x, y, z, u]) h
  exact ⟨by rw [hg]; rfl, by rw [hg]; rfl, by rw [hg]; rfl, by rw [hg]; rfl⟩
/-- Both values lie in variables. -/
theorem boxes_laid {w w1 w2 : World} {x y z u x2 y2 z2 u2 : Value} (hg1 : Hid (w1.heap[w.heap.size]? = some (.cells #[x, y, z, u] 25 (0, 0)))) (hb1 : Hid (Below w.heap.size w w1)) (hs1 : Hid (w1.heap.size = w.heap.size + 1)) (hg2 : Hid (w2.heap[w1.heap.size]? = some (.cells #[x2, y2, z2, u2] 25 (0, 0)))) (hb2 : Hid (Below w1.heap.size w1 w2)) :
    (w2.cell? ⟨w.heap.size, 0, none⟩ = some x ∧ w2.cell? ⟨w.heap.size, 1, none⟩ = some y ∧ w2.cell? ⟨w.heap.size, 2, none⟩ = some z ∧ w2.cell? ⟨w.heap.size, 3, none⟩ = some u) ∧ (w2.cell? ⟨w1.heap.size, 0, none⟩ = some x2 ∧ w2.cell? ⟨w1.heap.size, 1, none⟩ = some y2 ∧ w2.cell? ⟨w1.heap.size, 2, none⟩ = some z2 ∧ w2.cell? ⟨w1.heap.size, 3, none⟩ = some u2) ∧ Hid (Below w.heap.size w w2) ∧ Hid (w.heap.size < w2.heap.size ∧ w1.heap.size < w2.heap.size) := by
  have s1 := hs1.out
  have s2 := lt_of_heap hg2.out
  refine ⟨cells4 ((hb2.out.block _ (by omega)).trans hg1.out), cells4 hg2.out, Lib.hid (hb1.out.trans (hb2.out.mono (by omega))), Lib.hid (by omega)⟩
theorem cell_below {w w' : World} {b o : Nat} {v : Value} (h : w.cell? ⟨b, o, none⟩ = some v) (hb : Below w.heap.size w w') (hl : b < w.heap.size) : w'.cell? ⟨b, o, none⟩ = some v := (World.cell?_of_block (w := w) (a := ⟨b, o, none⟩) (hb.block b hl)).trans h
set_option maxRecDepth 100000 in
set_option maxHeartbeats 4000000 in
theorem areSame_one (k k2 : Int) (t t2 : List UInt8) (nv kv nv2 kv2 : Value) (w : World) (PN : Prop) [Decidable PN] (PK : Prop) (cn : ∀ u, Below w.heap.size w u → Calls Tryd.prog 41 #[nv, nv2] u fun e w' => e = .returned (.bool (decide PN)) ∧ Below u.heap.size u w')
    (ck : ∀ u, Below w.heap.size w u → Calls Tryd.prog 42 #[kv, kv2, .func (.func 27) #[] #[]] u fun e w' => (∃ r, e = .returned (.bool r) ∧ (r = true ↔ PK)) ∧ Below u.heap.size u w') :
    Calls Tryd.prog 27 #[jv k t nv kv, jv k2 t2 nv2 kv2] w fun e w' => (∃ r, e = .returned (.bool r) ∧ (r = true ↔ k = k2 ∧ t = t2 ∧ PN ∧ PK)) ∧ Below w.heap.size w w' := by
  have BX := fun w => box_json k t nv kv w
  have BX2 := fun w => box_json k2 t2 nv2 kv2 w
  have CN := Lib.hid cn
  have CK := Lib.hid ck
  have HE := Lib.hid (show (bs t).toList = t ∧ (bs t2).toList = t2 by rw [ByteArray.toList_eq, ByteArray.toList_eq, bs_list, bs_list]; exact ⟨rfl, rfl⟩)
  unfold jv jrow at *
  generalize bs t = s at *
  generalize bs t2 = s2 at *
  clear cn ck
  go_enter Tryd.func27, Tryd.ntmps27
  go_wp2_with (first | (refine wpList_box_any (w := w) rfl _ rfl _ _ rfl BX ?_; intro w1 hg1 hb1 hs1; go_frame) | (refine wpList_box_any (w := w1) rfl _ rfl _ _ rfl BX2 ?_; intro w2 hg2 hb2 hs2; obtain ⟨⟨e1, e2, e3, e4⟩, ⟨e5, e6, e7, e8⟩, B2, N2⟩ := boxes_laid hg1 hb1 hs1 hg2 hb2; go_frame) | (go_at_call 41; refine (CN.out w2 B2.out).mono ?_; rintro ex w3 ⟨rfl, hb3⟩; have B3 := Lib.hid (B2.out.trans (hb3.mono B2.out.size)); have g4 := cell_below e4 hb3 N2.out.1; have g8 := cell_below e8 hb3 N2.out.2; go_frame) | (go_at_call 42; refine (CK.out w3 B3.out).mono ?_; rintro ex w4 ⟨⟨r, rfl, hr⟩, hb4⟩; go_frame))
  all_goals
    obtain ⟨rfl, rfl⟩ := HE.out
    go_ret
    refine ⟨⟨_, rfl, ?_⟩, ?_⟩
    · simp_all
    · first | exact B3.out.trans (hb4.mono B3.out.size) | exact B3.out | exact B2.out
end Go.Proofs.YthfnlnhehececaaDoor

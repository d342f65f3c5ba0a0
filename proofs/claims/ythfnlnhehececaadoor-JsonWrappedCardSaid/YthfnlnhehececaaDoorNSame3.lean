/- json.Same. -/
import Derived.Test.YthfnlnhehececaaDoorNSame
import Derived.Test.YthfnlnhehececaaDoorNSame2
import Derived.Test.YthfnlnhehececaaDoorNRt6
namespace Go.Proofs.YthfnlnhehececaaDoor
open Go Go.RowKit

theorem same_at : ∀ j, SameC j := by
  intro j
  induction j using Js.J.ind with
  | h k t ns ks ih =>
    intro j2 v v2 B w hf hf2 hat hat2 hB
    obtain ⟨k2, t2, ns2, ks2⟩ := j2
    obtain ⟨nv, kv, vs, rfl, _, _, hn, hk, hl, hs⟩ := hat.jv_
    obtain ⟨nv2, kv2, vs2, rfl, _, _, hn2, hk2, hl2, hs2⟩ := hat2.jv_
    cases hf with
    | mk _ _ _ _ _ f1 _ f3 f4 =>
    cases hf2 with
    | mk _ _ _ _ _ g1 _ g3 g4 =>
    refine (areSame_one k k2 t t2 nv kv nv2 kv2 w (ns = ns2) (ks = ks2) (fun u hu => ?_) (fun u hu => ?_)).mono ?_
    · exact namesEq_any (· < B) (· < B) ns ns2 nv nv2 u (hn.frame (fun _ h => h) hu.size fun g hg _ => hu.block g (by omega)) (hn2.frame (fun _ h => h) hu.size fun g hg _ => hu.block g (by omega)) f1 g1
    · exact kidsSame_any ks ks2 kv kv2 vs vs2 B u ih f4 g4 f3 g3 (hk.frame (fun _ h => h) hu.size fun g hg _ => hu.block g (by omega)) (hk2.frame (fun _ h => h) hu.size fun g hg _ => hu.block g (by omega)) hl hl2 (fun i j v a b => (hs i j v a b).low hu hB) (fun i j v a b => (hs2 i j v a b).low hu hB) (Nat.le_trans hB hu.size)
    · rintro e w' ⟨⟨r, h1, h2⟩, h3⟩
      refine ⟨⟨r, h1, ?_⟩, h3⟩
      rw [h2]
      constructor
      · rintro ⟨rfl, rfl, rfl, rfl⟩; rfl
      · intro h; injection h with a b c d; exact ⟨a, b, c, d⟩
theorem cells_below {w w' : World} {b : Nat} {x y z u : Value} (h : w.cell? ⟨b, 0, none⟩ = some x ∧ w.cell? ⟨b, 1, none⟩ = some y ∧ w.cell? ⟨b, 2, none⟩ = some z ∧ w.cell? ⟨b, 3, none⟩ = some u) (hb : Below w.heap.size w w') (hl : b < w.heap.size) :
    w'.cell? ⟨b, 0, none⟩ = some x ∧ w'.cell? ⟨b, 1, none⟩ = some y ∧ w'.cell? ⟨b, 2, none⟩ = some z ∧ w'.cell? ⟨b, 3, none⟩ = some u :=
  ⟨cell_below h.1 hb hl, cell_below h.2.1 hb hl, cell_below h.2.2.1 hb hl, cell_below h.2.2.2 hb hl⟩
set_option maxRecDepth 100000 in
set_option maxHeartbeats 4000000 in
theorem same_any (j j2 : Js.J) (v v2 : Value) (B : Nat) (w : World) (hf : Js.Fit j) (hf2 : Js.Fit j2) (hat : At w (· < B) j v) (hat2 : At w (· < B) j2 v2) (hB : B ≤ w.heap.size) (hT : Tb w) :
    Calls Tryd.prog 11 #[v, v2] w fun e w' => (∃ r, e = .returned (.bool r) ∧ (r = true ↔ Js.right j = true ∧ Js.right j2 = true ∧ j = j2)) ∧ Below w.heap.size w w' := by
  have C1 := Lib.hid (fun (u : World) (hu : Below w.heap.size w u) => isRight_any j v B u hf (hat.low hu hB) (Nat.le_trans hB hu.size) (hT.below hu))
  have C2 := Lib.hid (fun (u : World) (hu : Below w.heap.size w u) => isRight_any j2 v2 B u hf2 (hat2.low hu hB) (Nat.le_trans hB hu.size) (hT.below hu))
  have C3 := Lib.hid (fun (u : World) (hu : Below w.heap.size w u) => same_at j j2 v v2 B u hf hf2 (hat.low hu hB) (hat2.low hu hB) (Nat.le_trans hB hu.size))
  generalize Js.right j = r1 at *
  generalize Js.right j2 = r2 at *
  generalize hP : (j = j2) = P at *
  clear hP
  obtain ⟨k, t, ns, ks⟩ := j
  obtain ⟨k2, t2, ns2, ks2⟩ := j2
  obtain ⟨nv, kv, vs, rfl, h1, h2, _⟩ := hat.jv_
  obtain ⟨nv2, kv2, vs2, rfl, h3, h4, _⟩ := hat2.jv_
  have BX := fun w => box_json k t nv kv w
  have BX2 := fun w => box_json k2 t2 nv2 kv2 w
  clear hat hat2 hf hf2 hT
  unfold jv jrow at *
  generalize bs t = s at *
  generalize bs t2 = s2 at *
  go_enter Tryd.func11, Tryd.ntmps11
  go_wp2_with (first | (refine wpList_box_any (w := w) rfl _ rfl _ _ rfl BX ?_; intro w1 hg1 hb1 hs1; go_frame) | (refine wpList_box_any (w := w1) rfl _ rfl _ _ rfl BX2 ?_; intro w2 hg2 hb2 hs2; obtain ⟨⟨e1, e2, e3, e4⟩, ⟨e5, e6, e7, e8⟩, B2, N2⟩ := boxes_laid hg1 hb1 hs1 hg2 hb2; have E1 := Lib.hid (And.intro e1 (And.intro e2 (And.intro e3 e4))); have E2 := Lib.hid (And.intro e5 (And.intro e6 (And.intro e7 e8))); go_frame) | (go_at_call 26; refine (C1.out w2 B2.out).mono ?_; rintro ex w3 ⟨rfl, hb3⟩; clear C1; have B3 := Lib.hid (B2.out.trans (hb3.mono B2.out.size)); have n3 := hb3.size; have N3 := Lib.hid (And.intro (Nat.lt_of_lt_of_le N2.out.1 n3) (Nat.lt_of_lt_of_le N2.out.2 n3)); obtain ⟨f1, f2, f3, f4⟩ := cells_below E1.out hb3 N2.out.1; obtain ⟨f5, f6, f7, f8⟩ := cells_below E2.out hb3 N2.out.2; have E3 := Lib.hid (And.intro f1 (And.intro f2 (And.intro f3 f4))); have E4 := Lib.hid (And.intro f5 (And.intro f6 (And.intro f7 f8))); clear n3 hb3; go_frame) | (go_at_call 26; refine (C2.out w3 B3.out).mono ?_; rintro ex w4 ⟨rfl, hb4⟩; clear C2; have B4 := Lib.hid (B3.out.trans (hb4.mono B3.out.size)); obtain ⟨i1, i2, i3, i4⟩ := cells_below E3.out hb4 N3.out.1; obtain ⟨i5, i6, i7, i8⟩ := cells_below E4.out hb4 N3.out.2; clear hb4; go_frame) | (go_at_call 27; refine (C3.out w4 B4.out).mono ?_; rintro ex w5 ⟨⟨r, rfl, hr⟩, hb5⟩; go_frame))
  all_goals
    go_ret
    refine ⟨⟨_, rfl, ?_⟩, ?_⟩
    · simp_all
    · first | exact B4.out.trans (hb5.mono B4.out.size) | exact B4.out | exact B3.out
end Go.Proofs.YthfnlnhehececaaDoor

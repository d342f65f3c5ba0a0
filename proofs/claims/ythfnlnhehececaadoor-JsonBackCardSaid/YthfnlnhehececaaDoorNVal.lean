/- The program reads a value. -/
import Derived.Test.YthfnlnhehececaaDoorNObj
namespace Go.Proofs.YthfnlnhehececaaDoor
open Go Go.RowKit

/-- Behind what has read the value: it goes into the result. -/
theorem value_done {w w1 v w' : World} {b q d : Nat} {S : List UInt8} {j : Js.J} {x : Value} (hlt : b < w.heap.size) (hg1 : Hid (w1.heap[w.heap.size]? = some (.cells noRow.toArray 25 (0, 0)))) (hb1 : Hid (Below w.heap.size w w1)) (hB : Hid (Below w1.heap.size w1 v))
    (hm : Made v j x w') (hr : Rd w' b (bs S) q d) (hk : Kept v.heap.size [b] v w') :
    Hid (w'.heap[w.heap.size]? = some (.cells noRow.toArray 25 (0, 0))) ∧ Hid (∀ w6, Kept w'.heap.size [w.heap.size] w' w6 → w6.heap.size = w'.heap.size → Made w j x w6 ∧ Rd w6 b (bs S) q d ∧ Kept w.heap.size [b] w w6) := by
  have h1 := lt_of_heap hg1.out
  have h2 := hB.out.size
  have h3 := hk.size
  have hv := (Kept.of_below (ws := []) hB.out).heap hg1.out h1 (by simp)
  refine ⟨Lib.hid (hk.heap hv (by omega) (by simp; omega)), Lib.hid fun w6 hk6 hs6 => ⟨?_, (hk6.block b hr.lt (by simp; omega)).trans hr, ?_⟩⟩
  · unfold Made
    rw [hs6]
    exact (Own.frame hm fun g g1 g2 => hk6.block g g2 (by simp; omega)).mono (by omega) (Nat.le_refl _)
  · exact ((Kept.of_below hb1.out).trans ((Kept.of_below hB.out).mono (by omega) (fun _ _ h => h))).trans ((hk.mono (by omega) (fun _ _ h => h)).trans (hk6.mono (by omega) (fun x hx hm => by simp at hm; omega)))
set_option maxRecDepth 100000 in
set_option maxHeartbeats 400000 in
theorem value0 (S l : List UInt8) (hS : S.length ≤ 8000) (b p d : Nat) (w : World) (hr0 : Rd w b (bs S) p d) (hl : Here S p l)  (hn0 : l.head? = some 110) :
    Calls Tryd.prog 39 #[.pointer (some ⟨b, 0, none⟩)] w (Out b S d w (Made w) ((Js.wd [110, 117, 108, 108] l).map fun _ => .mk 1 [] [] [])) := by
  have hlt := hr0.lt
  have H0 := fun v hv => (has_any S l 110 b p d v hv hl).mono fun e w' (h : _ ∧ _) => (⟨by rw [h.1, decide_eq_true hn0], h.2⟩ : e = .returned (.bool true) ∧ Below v.heap.size v w')
  rw [show ((110 : UInt8).toNat : Int) = 110 from rfl] at H0
  have H0 := Lib.hid H0
  have CA := fun v hv => word_any S l [110, 117, 108, 108] hS (by decide) 1 b p d v hv hl
  rw [show bs [110, 117, 108, 108] = ⟨#[110, 117, 108, 108]⟩ from (bs_eq _).symm] at CA
  have CA := Lib.hid CA
  generalize Js.wd [110, 117, 108, 108] l = R at *
  have HR := Lib.hid hr0
  clear hr0 hl
  cases R with
  | bad c q =>
    go_enter Tryd.func39, Tryd.ntmps39
    go_wp2_with (first | (refine wpList_alloc_v rfl 25 rfl _ allocJson ?_; intro w1 hg1 hb1 hs1; have hB := Lib.hid (Below.refl w1.heap.size w1); have hr := Lib.hid (HR.out.below hb1.out); go_frame) | (go_at_call 59; refine (H0.out _ hr.out).mono ?_; rintro e1 u ⟨rfl, hu⟩; clear H0; have hB := Lib.hid (hB.out.trans (hu.mono hB.out.size)); have hr := Lib.hid (hr.out.below hu); go_frame) | (go_at_call 60; refine (CA.out _ hr.out).mono ?_; rintro e1 w5 ⟨rfl, hk5⟩; have hK := Lib.hid hk5; clear hk5; go_frame))
    refine panic_end rfl ?_
    exact ⟨rfl, (Kept.of_below (hb1.out.trans (hB.out.mono hb1.out.size))).trans (hK.out.mono (Nat.le_trans hb1.out.size hB.out.size) (fun _ _ h => h))⟩
  | ok x q =>
    go_enter Tryd.func39, Tryd.ntmps39
    go_wp2_with (first | (refine wpList_alloc_v rfl 25 rfl _ allocJson ?_; intro w1 hg1 hb1 hs1; have hB := Lib.hid (Below.refl w1.heap.size w1); have hr := Lib.hid (HR.out.below hb1.out); go_frame) | (go_at_call 59; refine (H0.out _ hr.out).mono ?_; rintro e1 u ⟨rfl, hu⟩; clear H0; have hB := Lib.hid (hB.out.trans (hu.mono hB.out.size)); have hr := Lib.hid (hr.out.below hu); go_frame) | (go_at_call 60; refine (CA.out _ hr.out).mono ?_; rintro e1 w5 ⟨x1, rfl, hm5, hr5, hk5⟩; obtain ⟨nv, kv, rfl, hn1, hn2⟩ := Own.jv_ hm5; obtain ⟨J1, J2⟩ := value_done hlt hg1 hb1 hB hm5 hr5 hk5; clear hm5 hr5 hk5; go_frame) | (refine wpList_store_json rfl _ _ rfl w.heap.size 1 [] nv kv noRow rfl rfl hn1 hn2 rfl J1.out ?_; intro w6 hg6 hk6 hs6; go_frame))
    obtain ⟨D1, D2, D3⟩ := J2.out w6 hk6.out hs6.out
    refine bodyPost_ret (results_json rfl _ _ _ 1 [] _ _ rfl hg6.out) rfl ?_
    exact ⟨_, rfl, D1, D2, D3⟩
set_option maxRecDepth 100000 in
set_option maxHeartbeats 400000 in
theorem value1 (S l : List UInt8) (hS : S.length ≤ 8000) (b p d : Nat) (w : World) (hr0 : Rd w b (bs S) p d) (hl : Here S p l) (hn0 : l.head? ≠ some 110) (hn1 : l.head? = some 102) :
    Calls Tryd.prog 39 #[.pointer (some ⟨b, 0, none⟩)] w (Out b S d w (Made w) ((Js.wd [102, 97, 108, 115, 101] l).map fun _ => .mk 2 [] [] [])) := by
  have hlt := hr0.lt
  have H0 := fun v hv => (has_any S l 110 b p d v hv hl).mono fun e w' (h : _ ∧ _) => (⟨by rw [h.1, decide_eq_false hn0], h.2⟩ : e = .returned (.bool false) ∧ Below v.heap.size v w')
  rw [show ((110 : UInt8).toNat : Int) = 110 from rfl] at H0
  have H0 := Lib.hid H0
  have H1 := fun v hv => (has_any S l 102 b p d v hv hl).mono fun e w' (h : _ ∧ _) => (⟨by rw [h.1, decide_eq_true hn1], h.2⟩ : e = .returned (.bool true) ∧ Below v.heap.size v w')
  rw [show ((102 : UInt8).toNat : Int) = 102 from rfl] at H1
  have H1 := Lib.hid H1
  have CA := fun v hv => word_any S l [102, 97, 108, 115, 101] hS (by decide) 2 b p d v hv hl
  rw [show bs [102, 97, 108, 115, 101] = ⟨#[102, 97, 108, 115, 101]⟩ from (bs_eq _).symm] at CA
  have CA := Lib.hid CA
  generalize Js.wd [102, 97, 108, 115, 101] l = R at *
  have HR := Lib.hid hr0
  clear hr0 hl
  cases R with
  | bad c q =>
    go_enter Tryd.func39, Tryd.ntmps39
    go_wp2_with (first | (refine wpList_alloc_v rfl 25 rfl _ allocJson ?_; intro w1 hg1 hb1 hs1; have hB := Lib.hid (Below.refl w1.heap.size w1); have hr := Lib.hid (HR.out.below hb1.out); go_frame) | (go_at_call 59; refine (H0.out _ hr.out).mono ?_; rintro e1 u ⟨rfl, hu⟩; clear H0; have hB := Lib.hid (hB.out.trans (hu.mono hB.out.size)); have hr := Lib.hid (hr.out.below hu); go_frame) | (go_at_call 59; refine (H1.out _ hr.out).mono ?_; rintro e1 u ⟨rfl, hu⟩; clear H1; have hB := Lib.hid (hB.out.trans (hu.mono hB.out.size)); have hr := Lib.hid (hr.out.below hu); go_frame) | (go_at_call 60; refine (CA.out _ hr.out).mono ?_; rintro e1 w5 ⟨rfl, hk5⟩; have hK := Lib.hid hk5; clear hk5; go_frame))
    refine panic_end rfl ?_
    exact ⟨rfl, (Kept.of_below (hb1.out.trans (hB.out.mono hb1.out.size))).trans (hK.out.mono (Nat.le_trans hb1.out.size hB.out.size) (fun _ _ h => h))⟩
  | ok x q =>
    go_enter Tryd.func39, Tryd.ntmps39
    go_wp2_with (first | (refine wpList_alloc_v rfl 25 rfl _ allocJson ?_; intro w1 hg1 hb1 hs1; have hB := Lib.hid (Below.refl w1.heap.size w1); have hr := Lib.hid (HR.out.below hb1.out); go_frame) | (go_at_call 59; refine (H0.out _ hr.out).mono ?_; rintro e1 u ⟨rfl, hu⟩; clear H0; have hB := Lib.hid (hB.out.trans (hu.mono hB.out.size)); have hr := Lib.hid (hr.out.below hu); go_frame) | (go_at_call 59; refine (H1.out _ hr.out).mono ?_; rintro e1 u ⟨rfl, hu⟩; clear H1; have hB := Lib.hid (hB.out.trans (hu.mono hB.out.size)); have hr := Lib.hid (hr.out.below hu); go_frame) | (go_at_call 60; refine (CA.out _ hr.out).mono ?_; rintro e1 w5 ⟨x1, rfl, hm5, hr5, hk5⟩; obtain ⟨nv, kv, rfl, hn1, hn2⟩ := Own.jv_ hm5; obtain ⟨J1, J2⟩ := value_done hlt hg1 hb1 hB hm5 hr5 hk5; clear hm5 hr5 hk5; go_frame) | (refine wpList_store_json rfl _ _ rfl w.heap.size 2 [] nv kv noRow rfl rfl hn1 hn2 rfl J1.out ?_; intro w6 hg6 hk6 hs6; go_frame))
    obtain ⟨D1, D2, D3⟩ := J2.out w6 hk6.out hs6.out
    refine bodyPost_ret (results_json rfl _ _ _ 2 [] _ _ rfl hg6.out) rfl ?_
    exact ⟨_, rfl, D1, D2, D3⟩
set_option maxRecDepth 100000 in
set_option maxHeartbeats 400000 in
theorem value2 (S l : List UInt8) (hS : S.length ≤ 8000) (b p d : Nat) (w : World) (hr0 : Rd w b (bs S) p d) (hl : Here S p l) (hn0 : l.head? ≠ some 110) (hn1 : l.head? ≠ some 102) (hn2 : l.head? = some 116) :
    Calls Tryd.prog 39 #[.pointer (some ⟨b, 0, none⟩)] w (Out b S d w (Made w) ((Js.wd [116, 114, 117, 101] l).map fun _ => .mk 3 [] [] [])) := by
  have hlt := hr0.lt
  have H0 := fun v hv => (has_any S l 110 b p d v hv hl).mono fun e w' (h : _ ∧ _) => (⟨by rw [h.1, decide_eq_false hn0], h.2⟩ : e = .returned (.bool false) ∧ Below v.heap.size v w')
  rw [show ((110 : UInt8).toNat : Int) = 110 from rfl] at H0
  have H0 := Lib.hid H0
  have H1 := fun v hv => (has_any S l 102 b p d v hv hl).mono fun e w' (h : _ ∧ _) => (⟨by rw [h.1, decide_eq_false hn1], h.2⟩ : e = .returned (.bool false) ∧ Below v.heap.size v w')
  rw [show ((102 : UInt8).toNat : Int) = 102 from rfl] at H1
  have H1 := Lib.hid H1
  have H2 := fun v hv => (has_any S l 116 b p d v hv hl).mono fun e w' (h : _ ∧ _) => (⟨by rw [h.1, decide_eq_true hn2], h.2⟩ : e = .returned (.bool true) ∧ Below v.heap.size v w')
  rw [show ((116 : UInt8).toNat : Int) = 116 from rfl] at H2
  have H2 := Lib.hid H2
  have CA := fun v hv => word_any S l [116, 114, 117, 101] hS (by decide) 3 b p d v hv hl
  rw [show bs [116, 114, 117, 101] = ⟨#[116, 114, 117, 101]⟩ from (bs_eq _).symm] at CA
  have CA := Lib.hid CA
  generalize Js.wd [116, 114, 117, 101] l = R at *
  have HR := Lib.hid hr0
  clear hr0 hl
  cases R with
  | bad c q =>
    go_enter Tryd.func39, Tryd.ntmps39
    go_wp2_with (first | (refine wpList_alloc_v rfl 25 rfl _ allocJson ?_; intro w1 hg1 hb1 hs1; have hB := Lib.hid (Below.refl w1.heap.size w1); have hr := Lib.hid (HR.out.below hb1.out); go_frame) | (go_at_call 59; refine (H0.out _ hr.out).mono ?_; rintro e1 u ⟨rfl, hu⟩; clear H0; have hB := Lib.hid (hB.out.trans (hu.mono hB.out.size)); have hr := Lib.hid (hr.out.below hu); go_frame) | (go_at_call 59; refine (H1.out _ hr.out).mono ?_; rintro e1 u ⟨rfl, hu⟩; clear H1; have hB := Lib.hid (hB.out.trans (hu.mono hB.out.size)); have hr := Lib.hid (hr.out.below hu); go_frame) | (go_at_call 59; refine (H2.out _ hr.out).mono ?_; rintro e1 u ⟨rfl, hu⟩; clear H2; have hB := Lib.hid (hB.out.trans (hu.mono hB.out.size)); have hr := Lib.hid (hr.out.below hu); go_frame) | (go_at_call 60; refine (CA.out _ hr.out).mono ?_; rintro e1 w5 ⟨rfl, hk5⟩; have hK := Lib.hid hk5; clear hk5; go_frame))
    refine panic_end rfl ?_
    exact ⟨rfl, (Kept.of_below (hb1.out.trans (hB.out.mono hb1.out.size))).trans (hK.out.mono (Nat.le_trans hb1.out.size hB.out.size) (fun _ _ h => h))⟩
  | ok x q =>
    go_enter Tryd.func39, Tryd.ntmps39
    go_wp2_with (first | (refine wpList_alloc_v rfl 25 rfl _ allocJson ?_; intro w1 hg1 hb1 hs1; have hB := Lib.hid (Below.refl w1.heap.size w1); have hr := Lib.hid (HR.out.below hb1.out); go_frame) | (go_at_call 59; refine (H0.out _ hr.out).mono ?_; rintro e1 u ⟨rfl, hu⟩; clear H0; have hB := Lib.hid (hB.out.trans (hu.mono hB.out.size)); have hr := Lib.hid (hr.out.below hu); go_frame) | (go_at_call 59; refine (H1.out _ hr.out).mono ?_; rintro e1 u ⟨rfl, hu⟩; clear H1; have hB := Lib.hid (hB.out.trans (hu.mono hB.out.size)); have hr := Lib.hid (hr.out.below hu); go_frame) | (go_at_call 59; refine (H2.out _ hr.out).mono ?_; rintro e1 u ⟨rfl, hu⟩; clear H2; have hB := Lib.hid (hB.out.trans (hu.mono hB.out.size)); have hr := Lib.hid (hr.out.below hu); go_frame) | (go_at_call 60; refine (CA.out _ hr.out).mono ?_; rintro e1 w5 ⟨x1, rfl, hm5, hr5, hk5⟩; obtain ⟨nv, kv, rfl, hn1, hn2⟩ := Own.jv_ hm5; obtain ⟨J1, J2⟩ := value_done hlt hg1 hb1 hB hm5 hr5 hk5; clear hm5 hr5 hk5; go_frame) | (refine wpList_store_json rfl _ _ rfl w.heap.size 3 [] nv kv noRow rfl rfl hn1 hn2 rfl J1.out ?_; intro w6 hg6 hk6 hs6; go_frame))
    obtain ⟨D1, D2, D3⟩ := J2.out w6 hk6.out hs6.out
    refine bodyPost_ret (results_json rfl _ _ _ 3 [] _ _ rfl hg6.out) rfl ?_
    exact ⟨_, rfl, D1, D2, D3⟩
set_option maxRecDepth 100000 in
set_option maxHeartbeats 400000 in
theorem value3 (S l : List UInt8) (hS : S.length ≤ 8000) (b p d : Nat) (w : World) (hb : Hi b) (hT : Tb w) (hr0 : Rd w b (bs S) p d) (hl : Here S p l) (hn0 : l.head? ≠ some 110) (hn1 : l.head? ≠ some 102) (hn2 : l.head? ≠ some 116) (hn3 : l.head? = some 34) :
    Calls Tryd.prog 39 #[.pointer (some ⟨b, 0, none⟩)] w (Out b S d w (Made w) ((Js.quoted l).map fun t => .mk 5 t [] [])) := by
  have hlt := hr0.lt
  have H0 := fun v hv => (has_any S l 110 b p d v hv hl).mono fun e w' (h : _ ∧ _) => (⟨by rw [h.1, decide_eq_false hn0], h.2⟩ : e = .returned (.bool false) ∧ Below v.heap.size v w')
  rw [show ((110 : UInt8).toNat : Int) = 110 from rfl] at H0
  have H0 := Lib.hid H0
  have H1 := fun v hv => (has_any S l 102 b p d v hv hl).mono fun e w' (h : _ ∧ _) => (⟨by rw [h.1, decide_eq_false hn1], h.2⟩ : e = .returned (.bool false) ∧ Below v.heap.size v w')
  rw [show ((102 : UInt8).toNat : Int) = 102 from rfl] at H1
  have H1 := Lib.hid H1
  have H2 := fun v hv => (has_any S l 116 b p d v hv hl).mono fun e w' (h : _ ∧ _) => (⟨by rw [h.1, decide_eq_false hn2], h.2⟩ : e = .returned (.bool false) ∧ Below v.heap.size v w')
  rw [show ((116 : UInt8).toNat : Int) = 116 from rfl] at H2
  have H2 := Lib.hid H2
  have H3 := fun v hv => (has_any S l 34 b p d v hv hl).mono fun e w' (h : _ ∧ _) => (⟨by rw [h.1, decide_eq_true hn3], h.2⟩ : e = .returned (.bool true) ∧ Below v.heap.size v w')
  rw [show ((34 : UInt8).toNat : Int) = 34 from rfl] at H3
  have H3 := Lib.hid H3
  have CA := Lib.hid (fun v hT hv => quoted_any S l hS b p d v hb hT hv hl)
  have HT := Lib.hid hT
  generalize Js.quoted l = R at *
  have HR := Lib.hid hr0
  clear hr0 hl hT
  cases R with
  | bad c q =>
    go_enter Tryd.func39, Tryd.ntmps39
    go_wp2_with (first | (refine wpList_alloc_v rfl 25 rfl _ allocJson ?_; intro w1 hg1 hb1 hs1; have hB := Lib.hid (Below.refl w1.heap.size w1); have hr := Lib.hid (HR.out.below hb1.out); go_frame) | (go_at_call 59; refine (H0.out _ hr.out).mono ?_; rintro e1 u ⟨rfl, hu⟩; clear H0; have hB := Lib.hid (hB.out.trans (hu.mono hB.out.size)); have hr := Lib.hid (hr.out.below hu); go_frame) | (go_at_call 59; refine (H1.out _ hr.out).mono ?_; rintro e1 u ⟨rfl, hu⟩; clear H1; have hB := Lib.hid (hB.out.trans (hu.mono hB.out.size)); have hr := Lib.hid (hr.out.below hu); go_frame) | (go_at_call 59; refine (H2.out _ hr.out).mono ?_; rintro e1 u ⟨rfl, hu⟩; clear H2; have hB := Lib.hid (hB.out.trans (hu.mono hB.out.size)); have hr := Lib.hid (hr.out.below hu); go_frame) | (go_at_call 59; refine (H3.out _ hr.out).mono ?_; rintro e1 u ⟨rfl, hu⟩; clear H3; have hB := Lib.hid (hB.out.trans (hu.mono hB.out.size)); have hr := Lib.hid (hr.out.below hu); go_frame) | (go_at_call 61; refine (CA.out _ (HT.out.below (hb1.out.trans (hB.out.mono hb1.out.size))) hr.out).mono ?_; rintro e1 w5 ⟨rfl, hk5⟩; have hK := Lib.hid hk5; clear hk5; go_frame))
    refine panic_end rfl ?_
    exact ⟨rfl, (Kept.of_below (hb1.out.trans (hB.out.mono hb1.out.size))).trans (hK.out.mono (Nat.le_trans hb1.out.size hB.out.size) (fun _ _ h => h))⟩
  | ok x q =>
    go_enter Tryd.func39, Tryd.ntmps39
    go_wp2_with (first | (refine wpList_alloc_v rfl 25 rfl _ allocJson ?_; intro w1 hg1 hb1 hs1; have hB := Lib.hid (Below.refl w1.heap.size w1); have hr := Lib.hid (HR.out.below hb1.out); go_frame) | (go_at_call 59; refine (H0.out _ hr.out).mono ?_; rintro e1 u ⟨rfl, hu⟩; clear H0; have hB := Lib.hid (hB.out.trans (hu.mono hB.out.size)); have hr := Lib.hid (hr.out.below hu); go_frame) | (go_at_call 59; refine (H1.out _ hr.out).mono ?_; rintro e1 u ⟨rfl, hu⟩; clear H1; have hB := Lib.hid (hB.out.trans (hu.mono hB.out.size)); have hr := Lib.hid (hr.out.below hu); go_frame) | (go_at_call 59; refine (H2.out _ hr.out).mono ?_; rintro e1 u ⟨rfl, hu⟩; clear H2; have hB := Lib.hid (hB.out.trans (hu.mono hB.out.size)); have hr := Lib.hid (hr.out.below hu); go_frame) | (go_at_call 59; refine (H3.out _ hr.out).mono ?_; rintro e1 u ⟨rfl, hu⟩; clear H3; have hB := Lib.hid (hB.out.trans (hu.mono hB.out.size)); have hr := Lib.hid (hr.out.below hu); go_frame) | (go_at_call 61; refine (CA.out _ (HT.out.below (hb1.out.trans (hB.out.mono hb1.out.size))) hr.out).mono ?_; rintro e1 w5 ⟨x1, rfl, rfl, hr5, hk5⟩; obtain ⟨J1, J2⟩ := value_done (j := .mk 5 x [] []) (x := jv 5 x (.slice none 0 0) (.slice none 0 0)) hlt hg1 hb1 hB (leaf_own _ _ _ 5 x) hr5 hk5; clear hr5 hk5; go_frame) | (refine wpList_build_json2 rfl _ _ rfl 5 x rfl rfl ?_; go_frame) | (refine wpList_store_json rfl _ _ rfl w.heap.size 5 x (.slice none 0 0) (.slice none 0 0) noRow rfl rfl rfl rfl rfl J1.out ?_; intro w6 hg6 hk6 hs6; go_frame))
    obtain ⟨D1, D2, D3⟩ := J2.out w6 hk6.out hs6.out
    refine bodyPost_ret (results_json rfl _ _ _ 5 x _ _ rfl hg6.out) rfl ?_
    exact ⟨_, rfl, D1, D2, D3⟩
set_option maxRecDepth 100000 in
set_option maxHeartbeats 400000 in
theorem value4 (S l : List UInt8)  (b p d : Nat) (w : World) (_hb : Hi b) (hT : Tb w) (R : Js.Rs Js.J) (hc : ∀ v, Tb v → Rd v b (bs S) p d → Calls Tryd.prog 62 #[.pointer (some ⟨b, 0, none⟩)] v (Out b S d v (Made v) R)) (hr0 : Rd w b (bs S) p d) (hl : Here S p l) (hn0 : l.head? ≠ some 110) (hn1 : l.head? ≠ some 102) (hn2 : l.head? ≠ some 116) (hn3 : l.head? ≠ some 34) (hn4 : l.head? = some 91) :
    Calls Tryd.prog 39 #[.pointer (some ⟨b, 0, none⟩)] w (Out b S d w (Made w) (R)) := by
  have hlt := hr0.lt
  have H0 := fun v hv => (has_any S l 110 b p d v hv hl).mono fun e w' (h : _ ∧ _) => (⟨by rw [h.1, decide_eq_false hn0], h.2⟩ : e = .returned (.bool false) ∧ Below v.heap.size v w')
  rw [show ((110 : UInt8).toNat : Int) = 110 from rfl] at H0
  have H0 := Lib.hid H0
  have H1 := fun v hv => (has_any S l 102 b p d v hv hl).mono fun e w' (h : _ ∧ _) => (⟨by rw [h.1, decide_eq_false hn1], h.2⟩ : e = .returned (.bool false) ∧ Below v.heap.size v w')
  rw [show ((102 : UInt8).toNat : Int) = 102 from rfl] at H1
  have H1 := Lib.hid H1
  have H2 := fun v hv => (has_any S l 116 b p d v hv hl).mono fun e w' (h : _ ∧ _) => (⟨by rw [h.1, decide_eq_false hn2], h.2⟩ : e = .returned (.bool false) ∧ Below v.heap.size v w')
  rw [show ((116 : UInt8).toNat : Int) = 116 from rfl] at H2
  have H2 := Lib.hid H2
  have H3 := fun v hv => (has_any S l 34 b p d v hv hl).mono fun e w' (h : _ ∧ _) => (⟨by rw [h.1, decide_eq_false hn3], h.2⟩ : e = .returned (.bool false) ∧ Below v.heap.size v w')
  rw [show ((34 : UInt8).toNat : Int) = 34 from rfl] at H3
  have H3 := Lib.hid H3
  have H4 := fun v hv => (has_any S l 91 b p d v hv hl).mono fun e w' (h : _ ∧ _) => (⟨by rw [h.1, decide_eq_true hn4], h.2⟩ : e = .returned (.bool true) ∧ Below v.heap.size v w')
  rw [show ((91 : UInt8).toNat : Int) = 91 from rfl] at H4
  have H4 := Lib.hid H4
  have CA := Lib.hid hc
  have HT := Lib.hid hT
  have HR := Lib.hid hr0
  clear hr0 hl hT hc
  cases R with
  | bad c q =>
    go_enter Tryd.func39, Tryd.ntmps39
    go_wp2_with (first | (refine wpList_alloc_v rfl 25 rfl _ allocJson ?_; intro w1 hg1 hb1 hs1; have hB := Lib.hid (Below.refl w1.heap.size w1); have hr := Lib.hid (HR.out.below hb1.out); go_frame) | (go_at_call 59; refine (H0.out _ hr.out).mono ?_; rintro e1 u ⟨rfl, hu⟩; clear H0; have hB := Lib.hid (hB.out.trans (hu.mono hB.out.size)); have hr := Lib.hid (hr.out.below hu); go_frame) | (go_at_call 59; refine (H1.out _ hr.out).mono ?_; rintro e1 u ⟨rfl, hu⟩; clear H1; have hB := Lib.hid (hB.out.trans (hu.mono hB.out.size)); have hr := Lib.hid (hr.out.below hu); go_frame) | (go_at_call 59; refine (H2.out _ hr.out).mono ?_; rintro e1 u ⟨rfl, hu⟩; clear H2; have hB := Lib.hid (hB.out.trans (hu.mono hB.out.size)); have hr := Lib.hid (hr.out.below hu); go_frame) | (go_at_call 59; refine (H3.out _ hr.out).mono ?_; rintro e1 u ⟨rfl, hu⟩; clear H3; have hB := Lib.hid (hB.out.trans (hu.mono hB.out.size)); have hr := Lib.hid (hr.out.below hu); go_frame) | (go_at_call 59; refine (H4.out _ hr.out).mono ?_; rintro e1 u ⟨rfl, hu⟩; clear H4; have hB := Lib.hid (hB.out.trans (hu.mono hB.out.size)); have hr := Lib.hid (hr.out.below hu); go_frame) | (go_at_call 62; refine (CA.out _ (HT.out.below (hb1.out.trans (hB.out.mono hb1.out.size))) hr.out).mono ?_; rintro e1 w5 ⟨rfl, hk5⟩; have hK := Lib.hid hk5; clear hk5; go_frame))
    refine panic_end rfl ?_
    exact ⟨rfl, (Kept.of_below (hb1.out.trans (hB.out.mono hb1.out.size))).trans (hK.out.mono (Nat.le_trans hb1.out.size hB.out.size) (fun _ _ h => h))⟩
  | ok x q =>
    obtain ⟨k, t, ns, ks⟩ := x
    go_enter Tryd.func39, Tryd.ntmps39
    go_wp2_with (first | (refine wpList_alloc_v rfl 25 rfl _ allocJson ?_; intro w1 hg1 hb1 hs1; have hB := Lib.hid (Below.refl w1.heap.size w1); have hr := Lib.hid (HR.out.below hb1.out); go_frame) | (go_at_call 59; refine (H0.out _ hr.out).mono ?_; rintro e1 u ⟨rfl, hu⟩; clear H0; have hB := Lib.hid (hB.out.trans (hu.mono hB.out.size)); have hr := Lib.hid (hr.out.below hu); go_frame) | (go_at_call 59; refine (H1.out _ hr.out).mono ?_; rintro e1 u ⟨rfl, hu⟩; clear H1; have hB := Lib.hid (hB.out.trans (hu.mono hB.out.size)); have hr := Lib.hid (hr.out.below hu); go_frame) | (go_at_call 59; refine (H2.out _ hr.out).mono ?_; rintro e1 u ⟨rfl, hu⟩; clear H2; have hB := Lib.hid (hB.out.trans (hu.mono hB.out.size)); have hr := Lib.hid (hr.out.below hu); go_frame) | (go_at_call 59; refine (H3.out _ hr.out).mono ?_; rintro e1 u ⟨rfl, hu⟩; clear H3; have hB := Lib.hid (hB.out.trans (hu.mono hB.out.size)); have hr := Lib.hid (hr.out.below hu); go_frame) | (go_at_call 59; refine (H4.out _ hr.out).mono ?_; rintro e1 u ⟨rfl, hu⟩; clear H4; have hB := Lib.hid (hB.out.trans (hu.mono hB.out.size)); have hr := Lib.hid (hr.out.below hu); go_frame) | (go_at_call 62; refine (CA.out _ (HT.out.below (hb1.out.trans (hB.out.mono hb1.out.size))) hr.out).mono ?_; rintro e1 w5 ⟨x1, rfl, hm5, hr5, hk5⟩; obtain ⟨nv, kv, rfl, hn1, hn2⟩ := Own.jv_ hm5; obtain ⟨J1, J2⟩ := value_done hlt hg1 hb1 hB hm5 hr5 hk5; clear hm5 hr5 hk5; go_frame) | (refine wpList_store_json rfl _ _ rfl w.heap.size k t nv kv noRow rfl rfl hn1 hn2 rfl J1.out ?_; intro w6 hg6 hk6 hs6; go_frame))
    obtain ⟨D1, D2, D3⟩ := J2.out w6 hk6.out hs6.out
    refine bodyPost_ret (results_json rfl _ _ _ k t _ _ rfl hg6.out) rfl ?_
    exact ⟨_, rfl, D1, D2, D3⟩
set_option maxRecDepth 100000 in
set_option maxHeartbeats 400000 in
theorem value5 (S l : List UInt8)  (b p d : Nat) (w : World) (_hb : Hi b) (hT : Tb w) (R : Js.Rs Js.J) (hc : ∀ v, Tb v → Rd v b (bs S) p d → Calls Tryd.prog 63 #[.pointer (some ⟨b, 0, none⟩)] v (Out b S d v (Made v) R)) (hr0 : Rd w b (bs S) p d) (hl : Here S p l) (hn0 : l.head? ≠ some 110) (hn1 : l.head? ≠ some 102) (hn2 : l.head? ≠ some 116) (hn3 : l.head? ≠ some 34) (hn4 : l.head? ≠ some 91) (hn5 : l.head? = some 123) :
    Calls Tryd.prog 39 #[.pointer (some ⟨b, 0, none⟩)] w (Out b S d w (Made w) (R)) := by
  have hlt := hr0.lt
  have H0 := fun v hv => (has_any S l 110 b p d v hv hl).mono fun e w' (h : _ ∧ _) => (⟨by rw [h.1, decide_eq_false hn0], h.2⟩ : e = .returned (.bool false) ∧ Below v.heap.size v w')
  rw [show ((110 : UInt8).toNat : Int) = 110 from rfl] at H0
  have H0 := Lib.hid H0
  have H1 := fun v hv => (has_any S l 102 b p d v hv hl).mono fun e w' (h : _ ∧ _) => (⟨by rw [h.1, decide_eq_false hn1], h.2⟩ : e = .returned (.bool false) ∧ Below v.heap.size v w')
  rw [show ((102 : UInt8).toNat : Int) = 102 from rfl] at H1
  have H1 := Lib.hid H1
  have H2 := fun v hv => (has_any S l 116 b p d v hv hl).mono fun e w' (h : _ ∧ _) => (⟨by rw [h.1, decide_eq_false hn2], h.2⟩ : e = .returned (.bool false) ∧ Below v.heap.size v w')
  rw [show ((116 : UInt8).toNat : Int) = 116 from rfl] at H2
  have H2 := Lib.hid H2
  have H3 := fun v hv => (has_any S l 34 b p d v hv hl).mono fun e w' (h : _ ∧ _) => (⟨by rw [h.1, decide_eq_false hn3], h.2⟩ : e = .returned (.bool false) ∧ Below v.heap.size v w')
  rw [show ((34 : UInt8).toNat : Int) = 34 from rfl] at H3
  have H3 := Lib.hid H3
  have H4 := fun v hv => (has_any S l 91 b p d v hv hl).mono fun e w' (h : _ ∧ _) => (⟨by rw [h.1, decide_eq_false hn4], h.2⟩ : e = .returned (.bool false) ∧ Below v.heap.size v w')
  rw [show ((91 : UInt8).toNat : Int) = 91 from rfl] at H4
  have H4 := Lib.hid H4
  have H5 := fun v hv => (has_any S l 123 b p d v hv hl).mono fun e w' (h : _ ∧ _) => (⟨by rw [h.1, decide_eq_true hn5], h.2⟩ : e = .returned (.bool true) ∧ Below v.heap.size v w')
  rw [show ((123 : UInt8).toNat : Int) = 123 from rfl] at H5
  have H5 := Lib.hid H5
  have CA := Lib.hid hc
  have HT := Lib.hid hT
  have HR := Lib.hid hr0
  clear hr0 hl hT hc
  cases R with
  | bad c q =>
    go_enter Tryd.func39, Tryd.ntmps39
    go_wp2_with (first | (refine wpList_alloc_v rfl 25 rfl _ allocJson ?_; intro w1 hg1 hb1 hs1; have hB := Lib.hid (Below.refl w1.heap.size w1); have hr := Lib.hid (HR.out.below hb1.out); go_frame) | (go_at_call 59; refine (H0.out _ hr.out).mono ?_; rintro e1 u ⟨rfl, hu⟩; clear H0; have hB := Lib.hid (hB.out.trans (hu.mono hB.out.size)); have hr := Lib.hid (hr.out.below hu); go_frame) | (go_at_call 59; refine (H1.out _ hr.out).mono ?_; rintro e1 u ⟨rfl, hu⟩; clear H1; have hB := Lib.hid (hB.out.trans (hu.mono hB.out.size)); have hr := Lib.hid (hr.out.below hu); go_frame) | (go_at_call 59; refine (H2.out _ hr.out).mono ?_; rintro e1 u ⟨rfl, hu⟩; clear H2; have hB := Lib.hid (hB.out.trans (hu.mono hB.out.size)); have hr := Lib.hid (hr.out.below hu); go_frame) | (go_at_call 59; refine (H3.out _ hr.out).mono ?_; rintro e1 u ⟨rfl, hu⟩; clear H3; have hB := Lib.hid (hB.out.trans (hu.mono hB.out.size)); have hr := Lib.hid (hr.out.below hu); go_frame) | (go_at_call 59; refine (H4.out _ hr.out).mono ?_; rintro e1 u ⟨rfl, hu⟩; clear H4; have hB := Lib.hid (hB.out.trans (hu.mono hB.out.size)); have hr := Lib.hid (hr.out.below hu); go_frame) | (go_at_call 59; refine (H5.out _ hr.out).mono ?_; rintro e1 u ⟨rfl, hu⟩; clear H5; have hB := Lib.hid (hB.out.trans (hu.mono hB.out.size)); have hr := Lib.hid (hr.out.below hu); go_frame) | (go_at_call 63; refine (CA.out _ (HT.out.below (hb1.out.trans (hB.out.mono hb1.out.size))) hr.out).mono ?_; rintro e1 w5 ⟨rfl, hk5⟩; have hK := Lib.hid hk5; clear hk5; go_frame))
    refine panic_end rfl ?_
    exact ⟨rfl, (Kept.of_below (hb1.out.trans (hB.out.mono hb1.out.size))).trans (hK.out.mono (Nat.le_trans hb1.out.size hB.out.size) (fun _ _ h => h))⟩
  | ok x q =>
    obtain ⟨k, t, ns, ks⟩ := x
    go_enter Tryd.func39, Tryd.ntmps39
    go_wp2_with (first | (refine wpList_alloc_v rfl 25 rfl _ allocJson ?_; intro w1 hg1 hb1 hs1; have hB := Lib.hid (Below.refl w1.heap.size w1); have hr := Lib.hid (HR.out.below hb1.out); go_frame) | (go_at_call 59; refine (H0.out _ hr.out).mono ?_; rintro e1 u ⟨rfl, hu⟩; clear H0; have hB := Lib.hid (hB.out.trans (hu.mono hB.out.size)); have hr := Lib.hid (hr.out.below hu); go_frame) | (go_at_call 59; refine (H1.out _ hr.out).mono ?_; rintro e1 u ⟨rfl, hu⟩; clear H1; have hB := Lib.hid (hB.out.trans (hu.mono hB.out.size)); have hr := Lib.hid (hr.out.below hu); go_frame) | (go_at_call 59; refine (H2.out _ hr.out).mono ?_; rintro e1 u ⟨rfl, hu⟩; clear H2; have hB := Lib.hid (hB.out.trans (hu.mono hB.out.size)); have hr := Lib.hid (hr.out.below hu); go_frame) | (go_at_call 59; refine (H3.out _ hr.out).mono ?_; rintro e1 u ⟨rfl, hu⟩; clear H3; have hB := Lib.hid (hB.out.trans (hu.mono hB.out.size)); have hr := Lib.hid (hr.out.below hu); go_frame) | (go_at_call 59; refine (H4.out _ hr.out).mono ?_; rintro e1 u ⟨rfl, hu⟩; clear H4; have hB := Lib.hid (hB.out.trans (hu.mono hB.out.size)); have hr := Lib.hid (hr.out.below hu); go_frame) | (go_at_call 59; refine (H5.out _ hr.out).mono ?_; rintro e1 u ⟨rfl, hu⟩; clear H5; have hB := Lib.hid (hB.out.trans (hu.mono hB.out.size)); have hr := Lib.hid (hr.out.below hu); go_frame) | (go_at_call 63; refine (CA.out _ (HT.out.below (hb1.out.trans (hB.out.mono hb1.out.size))) hr.out).mono ?_; rintro e1 w5 ⟨x1, rfl, hm5, hr5, hk5⟩; obtain ⟨nv, kv, rfl, hn1, hn2⟩ := Own.jv_ hm5; obtain ⟨J1, J2⟩ := value_done hlt hg1 hb1 hB hm5 hr5 hk5; clear hm5 hr5 hk5; go_frame) | (refine wpList_store_json rfl _ _ rfl w.heap.size k t nv kv noRow rfl rfl hn1 hn2 rfl J1.out ?_; intro w6 hg6 hk6 hs6; go_frame))
    obtain ⟨D1, D2, D3⟩ := J2.out w6 hk6.out hs6.out
    refine bodyPost_ret (results_json rfl _ _ _ k t _ _ rfl hg6.out) rfl ?_
    exact ⟨_, rfl, D1, D2, D3⟩
set_option maxRecDepth 100000 in
set_option maxHeartbeats 400000 in
theorem value6 (S l : List UInt8) (hS : S.length ≤ 8000) (b p d : Nat) (w : World) (hr0 : Rd w b (bs S) p d) (hl : Here S p l) (hn0 : l.head? ≠ some 110) (hn1 : l.head? ≠ some 102) (hn2 : l.head? ≠ some 116) (hn3 : l.head? ≠ some 34) (hn4 : l.head? ≠ some 91) (hn5 : l.head? ≠ some 123) :
    Calls Tryd.prog 39 #[.pointer (some ⟨b, 0, none⟩)] w (Out b S d w (Made w) (Js.num l)) := by
  have hlt := hr0.lt
  have H0 := fun v hv => (has_any S l 110 b p d v hv hl).mono fun e w' (h : _ ∧ _) => (⟨by rw [h.1, decide_eq_false hn0], h.2⟩ : e = .returned (.bool false) ∧ Below v.heap.size v w')
  rw [show ((110 : UInt8).toNat : Int) = 110 from rfl] at H0
  have H0 := Lib.hid H0
  have H1 := fun v hv => (has_any S l 102 b p d v hv hl).mono fun e w' (h : _ ∧ _) => (⟨by rw [h.1, decide_eq_false hn1], h.2⟩ : e = .returned (.bool false) ∧ Below v.heap.size v w')
  rw [show ((102 : UInt8).toNat : Int) = 102 from rfl] at H1
  have H1 := Lib.hid H1
  have H2 := fun v hv => (has_any S l 116 b p d v hv hl).mono fun e w' (h : _ ∧ _) => (⟨by rw [h.1, decide_eq_false hn2], h.2⟩ : e = .returned (.bool false) ∧ Below v.heap.size v w')
  rw [show ((116 : UInt8).toNat : Int) = 116 from rfl] at H2
  have H2 := Lib.hid H2
  have H3 := fun v hv => (has_any S l 34 b p d v hv hl).mono fun e w' (h : _ ∧ _) => (⟨by rw [h.1, decide_eq_false hn3], h.2⟩ : e = .returned (.bool false) ∧ Below v.heap.size v w')
  rw [show ((34 : UInt8).toNat : Int) = 34 from rfl] at H3
  have H3 := Lib.hid H3
  have H4 := fun v hv => (has_any S l 91 b p d v hv hl).mono fun e w' (h : _ ∧ _) => (⟨by rw [h.1, decide_eq_false hn4], h.2⟩ : e = .returned (.bool false) ∧ Below v.heap.size v w')
  rw [show ((91 : UInt8).toNat : Int) = 91 from rfl] at H4
  have H4 := Lib.hid H4
  have H5 := fun v hv => (has_any S l 123 b p d v hv hl).mono fun e w' (h : _ ∧ _) => (⟨by rw [h.1, decide_eq_false hn5], h.2⟩ : e = .returned (.bool false) ∧ Below v.heap.size v w')
  rw [show ((123 : UInt8).toNat : Int) = 123 from rfl] at H5
  have H5 := Lib.hid H5
  have CA := Lib.hid (fun v hv => number_any S l hS b p d v hv hl)
  generalize Js.num l = R at *
  have HR := Lib.hid hr0
  clear hr0 hl
  cases R with
  | bad c q =>
    go_enter Tryd.func39, Tryd.ntmps39
    go_wp2_with (first | (refine wpList_alloc_v rfl 25 rfl _ allocJson ?_; intro w1 hg1 hb1 hs1; have hB := Lib.hid (Below.refl w1.heap.size w1); have hr := Lib.hid (HR.out.below hb1.out); go_frame) | (go_at_call 59; refine (H0.out _ hr.out).mono ?_; rintro e1 u ⟨rfl, hu⟩; clear H0; have hB := Lib.hid (hB.out.trans (hu.mono hB.out.size)); have hr := Lib.hid (hr.out.below hu); go_frame) | (go_at_call 59; refine (H1.out _ hr.out).mono ?_; rintro e1 u ⟨rfl, hu⟩; clear H1; have hB := Lib.hid (hB.out.trans (hu.mono hB.out.size)); have hr := Lib.hid (hr.out.below hu); go_frame) | (go_at_call 59; refine (H2.out _ hr.out).mono ?_; rintro e1 u ⟨rfl, hu⟩; clear H2; have hB := Lib.hid (hB.out.trans (hu.mono hB.out.size)); have hr := Lib.hid (hr.out.below hu); go_frame) | (go_at_call 59; refine (H3.out _ hr.out).mono ?_; rintro e1 u ⟨rfl, hu⟩; clear H3; have hB := Lib.hid (hB.out.trans (hu.mono hB.out.size)); have hr := Lib.hid (hr.out.below hu); go_frame) | (go_at_call 59; refine (H4.out _ hr.out).mono ?_; rintro e1 u ⟨rfl, hu⟩; clear H4; have hB := Lib.hid (hB.out.trans (hu.mono hB.out.size)); have hr := Lib.hid (hr.out.below hu); go_frame) | (go_at_call 59; refine (H5.out _ hr.out).mono ?_; rintro e1 u ⟨rfl, hu⟩; clear H5; have hB := Lib.hid (hB.out.trans (hu.mono hB.out.size)); have hr := Lib.hid (hr.out.below hu); go_frame) | (go_at_call 64; refine (CA.out _ hr.out).mono ?_; rintro e1 w5 ⟨rfl, hk5⟩; have hK := Lib.hid hk5; clear hk5; go_frame))
    refine panic_end rfl ?_
    exact ⟨rfl, (Kept.of_below (hb1.out.trans (hB.out.mono hb1.out.size))).trans (hK.out.mono (Nat.le_trans hb1.out.size hB.out.size) (fun _ _ h => h))⟩
  | ok x q =>
    obtain ⟨k, t, ns, ks⟩ := x
    go_enter Tryd.func39, Tryd.ntmps39
    go_wp2_with (first | (refine wpList_alloc_v rfl 25 rfl _ allocJson ?_; intro w1 hg1 hb1 hs1; have hB := Lib.hid (Below.refl w1.heap.size w1); have hr := Lib.hid (HR.out.below hb1.out); go_frame) | (go_at_call 59; refine (H0.out _ hr.out).mono ?_; rintro e1 u ⟨rfl, hu⟩; clear H0; have hB := Lib.hid (hB.out.trans (hu.mono hB.out.size)); have hr := Lib.hid (hr.out.below hu); go_frame) | (go_at_call 59; refine (H1.out _ hr.out).mono ?_; rintro e1 u ⟨rfl, hu⟩; clear H1; have hB := Lib.hid (hB.out.trans (hu.mono hB.out.size)); have hr := Lib.hid (hr.out.below hu); go_frame) | (go_at_call 59; refine (H2.out _ hr.out).mono ?_; rintro e1 u ⟨rfl, hu⟩; clear H2; have hB := Lib.hid (hB.out.trans (hu.mono hB.out.size)); have hr := Lib.hid (hr.out.below hu); go_frame) | (go_at_call 59; refine (H3.out _ hr.out).mono ?_; rintro e1 u ⟨rfl, hu⟩; clear H3; have hB := Lib.hid (hB.out.trans (hu.mono hB.out.size)); have hr := Lib.hid (hr.out.below hu); go_frame) | (go_at_call 59; refine (H4.out _ hr.out).mono ?_; rintro e1 u ⟨rfl, hu⟩; clear H4; have hB := Lib.hid (hB.out.trans (hu.mono hB.out.size)); have hr := Lib.hid (hr.out.below hu); go_frame) | (go_at_call 59; refine (H5.out _ hr.out).mono ?_; rintro e1 u ⟨rfl, hu⟩; clear H5; have hB := Lib.hid (hB.out.trans (hu.mono hB.out.size)); have hr := Lib.hid (hr.out.below hu); go_frame) | (go_at_call 64; refine (CA.out _ hr.out).mono ?_; rintro e1 w5 ⟨x1, rfl, hm5, hr5, hk5⟩; obtain ⟨nv, kv, rfl, hn1, hn2⟩ := Own.jv_ hm5; obtain ⟨J1, J2⟩ := value_done hlt hg1 hb1 hB hm5 hr5 hk5; clear hm5 hr5 hk5; go_frame) | (refine wpList_store_json rfl _ _ rfl w.heap.size k t nv kv noRow rfl rfl hn1 hn2 rfl J1.out ?_; intro w6 hg6 hk6 hs6; go_frame))
    obtain ⟨D1, D2, D3⟩ := J2.out w6 hk6.out hs6.out
    refine bodyPost_ret (results_json rfl _ _ _ k t _ _ rfl hg6.out) rfl ?_
    exact ⟨_, rfl, D1, D2, D3⟩
theorem vstep_list0 (r : List UInt8) : Js.vstep none (91 :: r) = .bad 57 (91 :: r) := rfl
theorem vstep_object0 (r : List UInt8) : Js.vstep none (123 :: r) = .bad 57 (123 :: r) := rfl
/-- The reading of a value. -/
theorem value_gen (f : Option (List UInt8 → Js.Rs Js.J)) (S l : List UInt8) (hS : S.length ≤ 8000) (b p d : Nat) (w : World) (hb : Hi b) (hT : Tb w) (hr : Rd w b (bs S) p d) (hl : Here S p l)
    (h4 : ∀ r, l = 91 :: r → ∀ v, Tb v → Rd v b (bs S) p d → Calls Tryd.prog 62 #[.pointer (some ⟨b, 0, none⟩)] v (Out b S d v (Made v) (Js.vstep f l)))
    (h5 : ∀ r, l = 123 :: r → ∀ v, Tb v → Rd v b (bs S) p d → Calls Tryd.prog 63 #[.pointer (some ⟨b, 0, none⟩)] v (Out b S d v (Made v) (Js.vstep f l))) :
    Calls Tryd.prog 39 #[.pointer (some ⟨b, 0, none⟩)] w (Out b S d w (Made w) (Js.vstep f l)) := by
  by_cases n0 : l.head? = some 110
  · have := value0 S l hS b p d w hr hl n0
    rwa [show Js.vstep f l = (Js.wd [110, 117, 108, 108] l).map fun _ => .mk 1 [] [] [] by unfold Js.vstep; rw [if_pos n0]]
  by_cases n1 : l.head? = some 102
  · have := value1 S l hS b p d w hr hl n0 n1
    rwa [show Js.vstep f l = (Js.wd [102, 97, 108, 115, 101] l).map fun _ => .mk 2 [] [] [] by unfold Js.vstep; rw [if_neg n0, if_pos n1]]
  by_cases n2 : l.head? = some 116
  · have := value2 S l hS b p d w hr hl n0 n1 n2
    rwa [show Js.vstep f l = (Js.wd [116, 114, 117, 101] l).map fun _ => .mk 3 [] [] [] by unfold Js.vstep; rw [if_neg n0, if_neg n1, if_pos n2]]
  by_cases n3 : l.head? = some 34
  · have := value3 S l hS b p d w hb hT hr hl n0 n1 n2 n3
    rwa [show Js.vstep f l = (Js.quoted l).map fun t => .mk 5 t [] [] by unfold Js.vstep; rw [if_neg n0, if_neg n1, if_neg n2, if_pos n3]]
  by_cases n4 : l.head? = some 91
  · obtain ⟨r, hr4⟩ := head_cons n4
    exact value4 S l b p d w hb hT _ (h4 r hr4) hr hl n0 n1 n2 n3 n4
  by_cases n5 : l.head? = some 123
  · obtain ⟨r, hr5⟩ := head_cons n5
    exact value5 S l b p d w hb hT _ (h5 r hr5) hr hl n0 n1 n2 n3 n4 n5
  · have := value6 S l hS b p d w hr hl n0 n1 n2 n3 n4 n5
    rwa [show Js.vstep f l = Js.num l by unfold Js.vstep; rw [if_neg n0, if_neg n1, if_neg n2, if_neg n3, if_neg n4, if_neg n5]]
theorem value_any : ∀ D, ValC D := by
  intro D
  induction D with
  | zero =>
    intro S l b p d w hS hd hb hT hr hl
    obtain rfl : d = 20 := by omega
    refine value_gen none S l hS b p 20 w hb hT hr hl ?_ ?_
    · rintro r rfl v hT hr
      rw [vstep_list0]
      exact list_deep S r b p v hT hr hl
    · rintro r rfl v hT hr
      rw [vstep_object0]
      exact object_deep S r b p v hT hr hl
  | succ D ih =>
    intro S l b p d w hS hd hb hT hr hl
    refine value_gen (some (Js.val D)) S l hS b p d w hb hT hr hl ?_ ?_
    · rintro r rfl v hT hr
      rw [vstep_list]
      exact list_any D ih S r hS b p d v hd hb hT hr hl
    · rintro r rfl v hT hr
      rw [vstep_object]
      exact object_any D ih S r hS b p d v hd hb hT hr hl
end Go.Proofs.YthfnlnhehececaaDoor

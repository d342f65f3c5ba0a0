/- The program asks whether a value is right: all of it. -/
import Derived.Test.YthfnlnhehececaaDoorNRt5
namespace Go.Proofs.YthfnlnhehececaaDoor
open Go Go.RowKit

set_option maxRecDepth 100000 in
set_option maxHeartbeats 4000000 in
theorem isRight_full (k : Int) (t : List UInt8) (nv kv : Value) (d cb : Nat) (w : World) (hc : Cen w cb 8000) :
    Calls Tryd.prog 40 #[.pointer (some ⟨cb, 0, none⟩), jv k t nv kv, .int .i64 d] w fun e w' => e = .returned (.bool false) ∧ Cen w' cb 8001 ∧ Kept w.heap.size [cb] w w' := by
  have HC := Lib.hid hc
  have hcl := lt_of_heap hc
  have BX := fun w => box_json k t nv kv w
  unfold jv jrow at *
  generalize bs t = s at *
  clear hc
  go_enter Tryd.func40, Tryd.ntmps40
  go_wp2_with (first | (refine wpList_box_any rfl _ rfl _ _ rfl BX ?_; intro w1 hg1 hb1 hs1; obtain ⟨n1, n2, e1, e2, e3, e4, e5, e6, C1⟩ := right_laid HC hg1 hb1; go_frame))
  obtain ⟨r1, r2⟩ := right_end hb1 C1 n1 0
  go_ret
  exact ⟨rfl, r1, r2⟩
theorem right_kids (f : Option (Js.J → Nat → Bool × Nat)) (k : Int) (t : List UInt8) (ns : List (List UInt8)) (ks : List Js.J) (nv kv : Value) (vs : List Value) (n d B cb : Nat) (w : World) (hd : d ≤ 20) (hn : n ≤ 8000) (hf : Js.Fit (.mk k t ns ks)) (hnA : NsAt w (· < B) nv ns) (hkA : KsAt w (· < B) kv vs) (hl : vs.length = ks.length) (hBc : B ≤ cb) (_hBw : B ≤ w.heap.size) (hc : Cen w cb n) (hT : Tb w) (hi : Hi cb)
    (cr : ∀ u, Kept w.heap.size [cb] w u → Cen u cb (n + 1) → n + 1 ≤ 8000 → Calls Tryd.prog 66 #[.pointer (some ⟨cb, 0, none⟩), kv, .int .i64 ((d : Int) + 1)] u fun e w' => e = .returned (.bool (Js.rkids f ks (n + 1)).1) ∧ Cen w' cb (Js.rkids f ks (n + 1)).2 ∧ Kept u.heap.size [cb] u w') :
    Calls Tryd.prog 40 #[.pointer (some ⟨cb, 0, none⟩), jv k t nv kv, .int .i64 d] w fun e w' => e = .returned (.bool (Js.rstep f (.mk k t ns ks) n).1) ∧ Cen w' cb (Js.rstep f (.mk k t ns ks) n).2 ∧ Kept w.heap.size [cb] w w' := by
  cases hf with
  | mk _ _ _ _ ht8 hn8 hns8 hk8 _ =>
  by_cases h8 : 8000 < n + 1
  · obtain rfl : n = 8000 := by omega
    rw [show Js.rstep f (.mk k t ns ks) 8000 = (false, 8001) by unfold Js.rstep; dsimp only; rw [if_pos (by omega)]]
    exact isRight_full k t nv kv d cb w hc
  have h7 : n ≤ 7999 := by omega
  obtain ⟨a1, c1, e1, _⟩ := hnA.sl
  obtain ⟨a2, c2, e2, _⟩ := hkA.sl
  rw [hl] at e2
  by_cases k1 : k = 1
  · rw [show Js.rstep f (.mk k t ns ks) n = (t.isEmpty && ns.isEmpty && ks.isEmpty, n + 1) by unfold Js.rstep; dsimp only; rw [if_neg h8, if_pos (Or.inl k1)]]
    exact isRight_k1 k t ns ks nv kv n d cb w h7 a1 a2 c1 c2 e1 e2 hc k1
  by_cases k2 : k = 2
  · rw [show Js.rstep f (.mk k t ns ks) n = (t.isEmpty && ns.isEmpty && ks.isEmpty, n + 1) by unfold Js.rstep; dsimp only; rw [if_neg h8, if_pos (Or.inr (Or.inl k2))]]
    exact isRight_k2 k t ns ks nv kv n d cb w h7 a1 a2 c1 c2 e1 e2 hc k2
  by_cases k3 : k = 3
  · rw [show Js.rstep f (.mk k t ns ks) n = (t.isEmpty && ns.isEmpty && ks.isEmpty, n + 1) by unfold Js.rstep; dsimp only; rw [if_neg h8, if_pos (Or.inr (Or.inr k3))]]
    exact isRight_k3 k t ns ks nv kv n d cb w h7 a1 a2 c1 c2 e1 e2 hc k3
  have k123 : ¬ (k = 1 ∨ k = 2 ∨ k = 3) := by simp [k1, k2, k3]
  by_cases k4 : k = 4
  · rw [show Js.rstep f (.mk k t ns ks) n = (ns.isEmpty && ks.isEmpty, n + 1) by unfold Js.rstep; dsimp only; rw [if_neg h8, if_neg k123, if_pos k4]]
    exact isRight_k4 k t ns ks nv kv n d cb w h7 a1 a2 c1 c2 e1 e2 hc k4
  by_cases k5 : k = 5
  · rw [show Js.rstep f (.mk k t ns ks) n = (ns.isEmpty && ks.isEmpty && Js.utf t, n + 1) by unfold Js.rstep; dsimp only; rw [if_neg h8, if_neg k123, if_neg k4, if_pos k5]]
    exact isRight_k5 k t ns ks nv kv n d cb w h7 a1 a2 c1 c2 e1 e2 hc k5 ht8 hT hi
  by_cases k6 : k = 6
  · have := isRight_k6 k t ns ks nv kv n d cb w h7 a1 a2 c1 c2 e1 e2 hc k6 (Js.rkids f ks (n + 1)) (fun u h1 h2 => cr u h1 h2 (by omega)) hd
    rw [show Js.rstep f (.mk k t ns ks) n = if t.isEmpty && ns.isEmpty then Js.rkids f ks (n + 1) else (false, n + 1) by unfold Js.rstep; dsimp only; rw [if_neg h8, if_neg k123, if_neg k4, if_neg k5, if_pos k6]]
    refine this.mono ?_
    rintro e w' ⟨h1, h2, h3⟩
    by_cases hh : (t.isEmpty && ns.isEmpty) = true
    · rw [if_pos hh] at h1 h2 ⊢; exact ⟨h1, h2, h3⟩
    · rw [if_neg hh] at h1 h2 ⊢; exact ⟨h1, h2, h3⟩
  by_cases k7 : k = 7
  · have := isRight_k7 k t ns ks nv kv n d cb w h7 a1 a2 c1 c2 e1 e2 hc k7 (Js.rkids f ks (n + 1)) (Js.nm ns ks.length) (fun u h1 => areNames_any (· < B) ns nv ks.length u (hnA.frame (fun _ h => h) h1.size fun g hg _ => h1.block g (by omega) (by simp; omega)) hn8 hns8 (hT.keep hi h1)) (fun u h1 h2 => cr u h1 h2 (by omega)) hd
    rw [show Js.rstep f (.mk k t ns ks) n = if t.isEmpty && Js.nm ns ks.length then Js.rkids f ks (n + 1) else (false, n + 1) by unfold Js.rstep; dsimp only; rw [if_neg h8, if_neg k123, if_neg k4, if_neg k5, if_neg k6, if_pos k7]]
    refine this.mono ?_
    rintro e w' ⟨h1, h2, h3⟩
    by_cases hh : (t.isEmpty && Js.nm ns ks.length) = true
    · rw [if_pos hh] at h1 h2 ⊢; exact ⟨h1, h2, h3⟩
    · rw [if_neg hh] at h1 h2 ⊢; exact ⟨h1, h2, h3⟩
  · rw [show Js.rstep f (.mk k t ns ks) n = (false, n + 1) by unfold Js.rstep; dsimp only; rw [if_neg h8, if_neg k123, if_neg k4, if_neg k5, if_neg k6, if_neg k7]]
    exact isRight_no k t ns ks nv kv n d cb w h7 a1 a2 c1 c2 e1 e2 hc k1 k2 k3 k4 k5 k6 k7
theorem right_at : ∀ D, RightC D := by
  intro D
  induction D with
  | zero =>
    intro j v n d B cb w hd hn hf hat hBc hBw hc hT hi
    obtain rfl : d = 20 := by omega
    obtain ⟨k, t, ns, ks⟩ := j
    obtain ⟨nv, kv, vs, rfl, _, _, hnA, hkA, hl, hs⟩ := hat.jv_
    refine right_kids none k t ns ks nv kv vs n 20 B cb w (by omega) hn hf hnA hkA hl hBc hBw hc hT hi fun u h1 h2 h3 => ?_
    exact (areRight_deep kv (n + 1) cb u h2).mono fun e w' ⟨h1, h2, h3⟩ => ⟨h1, h2, h3 ▸ Kept.refl _ _ _⟩
  | succ D ih =>
    intro j v n d B cb w hd hn hf hat hBc hBw hc hT hi
    obtain ⟨k, t, ns, ks⟩ := j
    obtain ⟨nv, kv, vs, rfl, _, _, hnA, hkA, hl, hs⟩ := hat.jv_
    refine right_kids (some (Js.rt D)) k t ns ks nv kv vs n d B cb w (by omega) hn hf hnA hkA hl hBc hBw hc hT hi fun u h1 h2 h3 => ?_
    cases hf with
    | mk _ _ _ _ _ _ _ hk8 hks8 =>
    have hs1 := h1.size
    exact areRight_any D ih ks kv vs (n + 1) (d + 1) B cb u (by omega) h3 hks8 hk8 (hkA.frame (fun _ h => h) h1.size fun g hg _ => h1.block g (by omega) (by simp; omega)) hl (fun i j v a b => (hs i j v a b).keep h1 hBw (by simp; exact hBc)) hBc (by omega) h2 (hT.keep hi h1) hi
theorem top_laid {w w1 : World} {cs : List Value} (hT : Hid (Tb w)) (hg1 : Hid (w1.heap[w.heap.size]? = some (.cells cs.toArray 25 (0, 0)))) (hb1 : Hid (Below w.heap.size w w1)) (hs1 : Hid (w1.heap.size = w.heap.size + 1)) :
    Hid ((w1.alloc (.cells #[.int .i64 0] 76)).heap[w.heap.size]? = some (.cells cs.toArray 25 (0, 0))) ∧ Hid (Cen (w1.alloc (.cells #[.int .i64 0] 76)) w1.heap.size 0) ∧ Hid (Below w.heap.size w (w1.alloc (.cells #[.int .i64 0] 76))) ∧ Hid (Hi w1.heap.size) := by
  have s1 := hs1.out
  exact ⟨Lib.hid ((Below.heap_alloc w1 _ _ (by omega)).trans hg1.out), Lib.hid (heap_alloc_new _ _), Lib.hid (hb1.out.alloc hb1.out.size _), Lib.hid (hT.out.hi hb1.out.size)⟩
/-- Is it right? -/
theorem isRight_any (j : Js.J) (v : Value) (B : Nat) (w : World) (hf : Js.Fit j) (hat : At w (· < B) j v) (hBw : B ≤ w.heap.size) (hT : Tb w) :
    Calls Tryd.prog 26 #[v] w fun e w' => e = .returned (.bool (Js.right j)) ∧ Below w.heap.size w w' := by
  have HR := Lib.hid (fun cb u a1 a2 a3 a4 a5 a6 => right_at 20 j v 0 0 B cb u (by omega) (by omega) hf a1 a2 a3 a4 a5 a6)
  have HA := Lib.hid hat
  have HT := Lib.hid hT
  unfold Js.right
  generalize Js.rt 20 j 0 = R at *
  obtain ⟨k, t, ns, ks⟩ := j
  obtain ⟨nv, kv, vs, rfl, h1, h2, _⟩ := hat.jv_
  have BX := fun w => box_json k t nv kv w
  clear hat hT hf
  go_enter Tryd.func26, Tryd.ntmps26
  go_wp2_with (first | (refine wpList_box_any rfl _ rfl _ _ rfl BX ?_; intro w1 hg1 hb1 hs1; obtain ⟨G2, C2, B2, I2⟩ := top_laid HT hg1 hb1 hs1; go_frame) | (refine wpList_load_mid rfl 25 _ rfl w.heap.size 0 rfl (jrow k t nv kv) _ (range_of_list G2.out) Tryd.underlying25 rfl (by kernel_rfl) ?_; go_frame) | (go_at_call 40; refine (HR.out w1.heap.size _ (HA.out.low B2.out hBw) (Nat.le_trans hBw hb1.out.size) (Nat.le_trans hBw B2.out.size) C2.out (HT.out.below B2.out) I2.out).mono ?_; rintro e1 w3 ⟨rfl, hc3, hk3⟩; go_frame))
  go_ret
  exact ⟨rfl, below_kept B2.out hk3 (by have := hs1.out; omega) B2.out.size⟩
end Go.Proofs.YthfnlnhehececaaDoor

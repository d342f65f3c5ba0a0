/- The program asks whether two values are the same. -/
import Derived.Test.YthfnlnhehececaaDoorNRt3
namespace Go.Proofs.YthfnlnhehececaaDoor
open Go Go.RowKit

theorem map_bs_inj {a b : List (List UInt8)} : a.map bs = b.map bs ↔ a = b := by
  constructor
  · intro h
    induction a generalizing b with
    | nil => cases b with
      | nil => rfl
      | cons y b => cases h
    | cons x a ih => cases b with
      | nil => cases h
      | cons y b =>
        simp only [List.map_cons, List.cons.injEq] at h
        rw [bs_inj h.1, ih h.2]
  · rintro rfl; rfl
theorem NsAt.cells {w : World} {F : Nat → Prop} {a : Option Addr} {n c : Nat} {ns : List (List UInt8)} (h : NsAt w F (.slice a n c) ns) (hn : ns ≠ []) : ∃ g o, a = some ⟨g, o, none⟩ ∧ n = ns.length ∧ ∀ j, j < (ns.map bs).length → w.cell? ⟨g, o + j, none⟩ = some (.string ((ns.map bs).getD j ByteArray.empty)) := by
  rcases h with ⟨h, _⟩ | ⟨g, o, c', e, _, _, _, hc⟩
  · exact absurd h hn
  · injection e with e1 e2 e3
    refine ⟨g, o, e1, e2, fun j hj => ?_⟩
    rw [List.length_map] at hj
    rw [hc j _ (List.getElem?_eq_getElem hj), List.getD, List.getElem?_map, List.getElem?_eq_getElem hj]
    rfl
theorem namesEq_any (F G : Nat → Prop) (ns ns2 : List (List UInt8)) (nv nv2 : Value) (w : World) (h1 : NsAt w F nv ns) (h2 : NsAt w G nv2 ns2) (l1 : ns.length ≤ 140737488355328) (l2 : ns2.length ≤ 140737488355328) :
    Calls Tryd.prog 41 #[nv, nv2] w fun e w' => e = .returned (.bool (decide (ns = ns2))) ∧ Below w.heap.size w w' := by
  obtain ⟨a1, c1, e1, _⟩ := h1.sl
  obtain ⟨a2, c2, e2, _⟩ := h2.sl
  subst e1 e2
  by_cases hl : ns.length = ns2.length
  · by_cases hn : ns = []
    · subst hn
      obtain rfl : ns2 = [] := List.eq_nil_of_length_eq_zero hl.symm
      exact (k_slices_Equal_string_empty a1 a2 c1 0 c2 w (by omega)).mono fun e w' ⟨h1, h2⟩ => ⟨h1, h2 ▸ Below.refl _ _⟩
    · have hn2 : ns2 ≠ [] := fun h => hn (List.eq_nil_of_length_eq_zero (by rw [hl, h]; rfl))
      obtain ⟨g1, o1, rfl, _, hc1⟩ := h1.cells hn
      obtain ⟨g2, o2, rfl, _, hc2⟩ := h2.cells hn2
      refine (k_slices_Equal_string g1 o1 ns.length c1 g2 o2 ns2.length c2 (ns.map bs) (ns2.map bs) w (by simp) (by simp) (by omega) (by omega) hc1 hc2).mono ?_
      rintro e w' ⟨rfl, q, rfl⟩
      rw [List.take_of_length_le (by simp), List.take_of_length_le (by simp)]
      exact ⟨by rw [decide_eq_decide.2 map_bs_inj], below_drewN (Below.refl _ _) _⟩
  · refine (k_slices_Equal_string_lens a1 a2 ns.length c1 ns2.length c2 w hl).mono ?_
    rintro e w' ⟨rfl, rfl⟩
    exact ⟨by rw [decide_eq_false (fun h => hl (by rw [h]))], Below.refl _ _⟩
theorem range_block {w w' : World} {g o : Nat} {cs : List Value} (h : w.rangeAt g o cs) (hb : w'.heap[g]? = w.heap[g]?) : w'.rangeAt g o cs := fun j v hj => (World.cell?_of_block (w := w) (a := ⟨g, o + j, none⟩) hb).trans (h j v hj)
theorem one_laid {wr w1 w2 : World} (hb1 : Hid (Below wr.heap.size wr w1)) (hs1 : Hid (w1.heap.size = wr.heap.size + 1)) (hk2 : Hid (Kept w1.heap.size [wr.heap.size] w1 w2)) : Hid (Below wr.heap.size wr w2) := by
  have s1 := hs1.out
  exact Lib.hid (below_kept hb1.out hk2.out (Nat.le_refl _) (by omega))
theorem two_laid {wr w1 w2 w3 w4 : World} {cs cs2 : List Value} (hs1 : Hid (w1.heap.size = wr.heap.size + 1)) (hs2 : Hid (w2.heap.size = w1.heap.size)) (hg2 : Hid (w2.heap[wr.heap.size]? = some (.cells cs.toArray 25 (0, 0)))) (B2 : Hid (Below wr.heap.size wr w2))
    (hb3 : Hid (Below w2.heap.size w2 w3)) (hs3 : Hid (w3.heap.size = w2.heap.size + 1)) (hg4 : Hid (w4.heap[w2.heap.size]? = some (.cells cs2.toArray 25 (0, 0)))) (hk4 : Hid (Kept w3.heap.size [w2.heap.size] w3 w4)) :
    Hid (w4.heap[wr.heap.size]? = some (.cells cs.toArray 25 (0, 0))) ∧ Hid (w4.heap[w2.heap.size]? = some (.cells cs2.toArray 25 (0, 0))) ∧ Hid (Below wr.heap.size wr w4) := by
  have s1 := hs1.out
  have s2 := hs2.out
  have s3 := hs3.out
  exact ⟨Lib.hid (hk4.out.heap ((Kept.of_below (ws := []) hb3.out).heap hg2.out (by omega) (by simp)) (by omega) (by simp; omega)), hg4, Lib.hid (below_kept (B2.out.trans (hb3.out.mono (by omega))) hk4.out (by omega) (by omega))⟩
/-- What is asked of the comparison of one value with any other. -/
def SameC (j : Js.J) : Prop := ∀ (j2 : Js.J) (v v2 : Value) (B : Nat) (w : World), Js.Fit j → Js.Fit j2 → At w (· < B) j v → At w (· < B) j2 v2 → B ≤ w.heap.size →
  Calls Tryd.prog 27 #[v, v2] w fun e w' => (∃ r, e = .returned (.bool r) ∧ (r = true ↔ j = j2)) ∧ Below w.heap.size w w'
theorem take_eq_iff {α : Type} {ks ks2 : List α} {i : Nat} {a b : α} (ha : ks[i]? = some a) (hb : ks2[i]? = some b) (h : ks.take i = ks2.take i) : ks.take (i + 1) = ks2.take (i + 1) ↔ a = b := by
  rw [List.take_add_one, List.take_add_one, ha, hb, h]
  simp
set_option maxRecDepth 100000 in
set_option maxHeartbeats 4000000 in
theorem kidsSame_any (ks ks2 : List Js.J) (kv kv2 : Value) (vs vs2 : List Value) (B : Nat) (w : World) (hC : ∀ j ∈ ks, SameC j) (hf : ∀ j ∈ ks, Js.Fit j) (hf2 : ∀ j ∈ ks2, Js.Fit j) (hl8 : ks.length ≤ 140737488355328) (_hl82 : ks2.length ≤ 140737488355328) (hk : KsAt w (· < B) kv vs) (hk2 : KsAt w (· < B) kv2 vs2)
    (hl : vs.length = ks.length) (hl2 : vs2.length = ks2.length) (hs : ∀ (i : Nat) (j : Js.J) (v : Value), ks[i]? = some j → vs[i]? = some v → At w (· < B) j v) (hs2 : ∀ (i : Nat) (j : Js.J) (v : Value), ks2[i]? = some j → vs2[i]? = some v → At w (· < B) j v) (hBw : B ≤ w.heap.size) :
    Calls Tryd.prog 42 #[kv, kv2, .func (.func 27) #[] #[]] w fun e w' => (∃ r, e = .returned (.bool r) ∧ (r = true ↔ ks = ks2)) ∧ Below w.heap.size w w' := by
  obtain ⟨a1, c1, rfl, hcell⟩ := hk.sl
  obtain ⟨a2, c2, rfl, hcell2⟩ := hk2.sl
  rw [hl, hl2]
  by_cases hN : ks.length = ks2.length
  · obtain ⟨N, hN1⟩ : ∃ N, N = ks.length := ⟨_, rfl⟩
    rw [← hN, ← hN1]
    have HN := Lib.hid hN1
    have HN2 := Lib.hid (show N = ks2.length by rw [hN1, hN])
    have HC := Lib.hid hcell
    have HC2 := Lib.hid hcell2
    have HS := Lib.hid hs
    have HS2 := Lib.hid hs2
    have HL := Lib.hid hl
    have HL2 := Lib.hid hl2
    have HF := Lib.hid hf
    have HF2 := Lib.hid hf2
    have HSC := Lib.hid hC
    rw [← hN1] at hl8
    clear hk hk2 hcell hcell2 hs hs2 hl hl2 hf hf2 hC hN1 hN _hl82
    have hnot : ∀ (x : Bool) (w : World), (Op.unary .not (.bool x)).run Tryd.prog w = .ok (.bool (!x)) w := fun _ _ => rfl
    go_enter Tryd.func42, Tryd.ntmps42
    go_wp2_with fail
    go_loopw [17] (fun iv wr => ∃ i : Nat, i ≤ N ∧ iv = .int .i64 i ∧ Hid (ks.take i = ks2.take i) ∧ Hid (Below w.heap.size w wr)) (fun iv _ => N - (intOf iv).toNat)
    case atStart => exact ⟨0, by omega, rfl, Lib.hid rfl, Lib.hid (Below.refl _ _)⟩
    case round =>
      obtain ⟨i, hi, rfl, htk, hb⟩ := hrel
      have hws := hb.out.size
      by_cases hiN : i < N
      · have i1 : i < ks.length := by rw [← HN.out]; exact hiN
        have i2 : i < ks2.length := by rw [← HN2.out]; exact hiN
        have i3 : i < vs.length := by rw [HL.out]; exact i1
        have i4 : i < vs2.length := by rw [HL2.out]; exact i2
        have hj := List.getElem?_eq_getElem i1
        have hj2 := List.getElem?_eq_getElem i2
        have hv := List.getElem?_eq_getElem i3
        have hv2 := List.getElem?_eq_getElem i4
        generalize ks[i] = j at hj
        generalize ks2[i] = j2 at hj2
        generalize vs[i] = v at hv
        generalize vs2[i] = v2 at hv2
        obtain ⟨g, o, rfl, hgB, hg, hli⟩ := HC.out i v hv
        obtain ⟨g2, o2, rfl, hgB2, hg2, hli2⟩ := HC2.out i v2 hv2
        have hat := HS.out i j v hj hv
        have hat2 := HS2.out i j2 v2 hj2 hv2
        obtain ⟨k, t, ns, ks'⟩ := j
        obtain ⟨k2, t2, ns2, ks2'⟩ := j2
        obtain ⟨nv, kv, _, rfl, n1, n2, _⟩ := hat.jv_
        obtain ⟨nv2, kv2, _, rfl, n3, n4, _⟩ := hat2.jv_
        have HX := Lib.hid (fun (u : World) (hu : Below w.heap.size w u) => HSC.out _ (List.mem_of_getElem? hj) _ _ _ B u (HF.out _ (List.mem_of_getElem? hj)) (HF2.out _ (List.mem_of_getElem? hj2)) (hat.low hu hBw) (hat2.low hu hBw) (Nat.le_trans hBw hu.size))
        have hrow := Lib.hid (lies_row (hli.frame (hb.out.block g hg)))
        have hrow2 := Lib.hid (lies_row (hli2.frame (hb.out.block g2 hg2)))
        rw [Nat.mul_comm 4 i] at hrow hrow2
        have hgl := Lib.hid (show g2 < wr.heap.size by omega)
        have HTI := Lib.hid (take_eq_iff hj hj2 htk.out)
        clear hli hli2 hat hat2 hj hj2 hv hv2 HC HC2 HS HS2 HF HF2 HSC
        go_wp2_with (first | (refine wpList_load_mid rfl 25 _ rfl g (o + i * 4) rfl (jrow k t nv kv) _ hrow.out Tryd.underlying25 rfl (by kernel_rfl) ?_; go_frame) | (refine wpList_alloc_v (w := wr) rfl 25 rfl _ allocJson ?_; intro w1 hg1 hb1 hs1; go_frame) | (refine wpList_store_json rfl _ _ rfl wr.heap.size k t nv kv noRow rfl rfl n1 n2 rfl hg1.out ?_; intro w2 hg2 hk2 hs2; have B2 := one_laid hb1 hs1 hk2; have hrow3 := Lib.hid (range_block hrow2.out (B2.out.block g2 hgl.out)); go_frame) | (refine wpList_load_mid rfl 25 _ rfl g2 (o2 + i * 4) rfl (jrow k2 t2 nv2 kv2) _ hrow3.out Tryd.underlying25 rfl (by kernel_rfl) ?_; go_frame) | (refine wpList_alloc_v (w := w2) rfl 25 rfl _ allocJson ?_; intro w3 hg3 hb3 hs3; go_frame) | (refine wpList_store_json rfl _ _ rfl w2.heap.size k2 t2 nv2 kv2 noRow rfl rfl n3 n4 rfl hg3.out ?_; intro w4 hg4 hk4 hs4; obtain ⟨L1, L2, B4⟩ := two_laid hs1 hs2 hg2 B2 hb3 hs3 hg4 hk4; go_frame) | (refine wpList_load_mid rfl 25 _ rfl wr.heap.size 0 rfl (jrow k t nv kv) _ (range_of_list L1.out) Tryd.underlying25 rfl (by kernel_rfl) ?_; go_frame) | (refine wpList_load_mid rfl 25 _ rfl w2.heap.size 0 rfl (jrow k2 t2 nv2 kv2) _ (range_of_list L2.out) Tryd.underlying25 rfl (by kernel_rfl) ?_; go_frame) | (go_at_call 27; refine (HX.out w4 (hb.out.trans (B4.out.mono hws))).mono ?_; rintro e1 w5 ⟨⟨r, rfl, hr⟩, hb5⟩; have HRR := Lib.hid hr; have HB5 := Lib.hid hb5; clear hr hb5; go_frame))
        · rename_i hnr
          go_ret
          refine ⟨⟨false, rfl, ?_⟩, hb.out.trans ((B4.out.trans (HB5.out.mono B4.out.size)).mono hws)⟩
          constructor
          · intro h; cases h
          · intro h
            have := HTI.out.1 (by rw [h])
            rw [HRR.out.2 this] at hnr
            cases hnr
        · go_roundw
          case rel =>
            rename_i hnr
            exact ⟨i + 1, by omega, by go_num, Lib.hid (HTI.out.2 (HRR.out.1 (by simpa using hnr))), Lib.hid (hb.out.trans ((B4.out.trans (HB5.out.mono B4.out.size)).mono hws))⟩
          case measure => simp [intOf]; omega
      · obtain rfl : i = N := by omega
        have HE := Lib.hid (show ks = ks2 by have := htk.out; rwa [List.take_of_length_le (by rw [← HN.out]; exact Nat.le_refl _), List.take_of_length_le (by rw [← HN2.out]; exact Nat.le_refl _)] at this)
        clear HC HC2 HS HS2 HF HF2 HSC
        go_wp2_with fail
        go_ret
        exact ⟨⟨true, rfl, by simp [HE.out]⟩, hb.out⟩
  · have hN2 : ¬ ((ks.length : Int) = ks2.length) := by omega
    have hne : ¬ ks = ks2 := fun h => hN (by rw [h])
    generalize ks.length = N at *
    generalize ks2.length = N2 at *
    clear hk hk2 hcell hcell2 hs hs2 hf hf2 hC
    go_enter Tryd.func42, Tryd.ntmps42
    go_wp2_with fail
    go_ret
    exact ⟨⟨false, rfl, by simp [hne]⟩, Below.refl _ _⟩
end Go.Proofs.YthfnlnhehececaaDoor

/- The program reads a list. -/
import Derived.Test.YthfnlnhehececaaDoorNNam
namespace Go.Proofs.YthfnlnhehececaaDoor
open Go Go.RowKit

/-- The reading of values with so much depth left. -/
def ValC (D : Nat) : Prop := ∀ (S l : List UInt8) (b p d : Nat) (w : World), S.length ≤ 8000 → d + D = 20 → Hi b → Tb w → Rd w b (bs S) p d → Here S p l → Calls Tryd.prog 39 #[.pointer (some ⟨b, 0, none⟩)] w (Out b S d w (Made w) (Js.val D l))
theorem St.keep {jb rb b lo : Nat} {k : Int} {nv kv : Value} {ns : List (List UInt8)} {ks : List Js.J} {w w' : World} (h : St jb rb b lo k nv kv ns ks w) (hk : Kept w.heap.size [b] w w') : St jb rb b lo k nv kv ns ks w' := by
  obtain ⟨h1, h2, ⟨vs, iv, acc⟩, hlo, hjl, hrl, hbl, hjr, hjbn, hrbn⟩ := h
  have hsz := hk.size
  exact ⟨hk.heap h1 (by omega) (by simp; exact hjbn), hk.heap h2 (by omega) (by simp; exact hrbn), ⟨vs, iv, (acc.frame (w' := w') (fun g h1 h2 => hk.block g h2 (by simp; omega))).up hsz⟩, by omega, hjl, hrl, hbl, hjr, hjbn, hrbn⟩
theorem panic_end {fn : Func} {R : Ending → World → Prop} {a : Act} {w : World} {ch : List PanicEntry} (hd : a.defers = []) (h : R (.panicked ch) w) : bodyPost Tryd.prog fn R (.panic ch) a w := ⟨hd, h⟩
set_option maxHeartbeats 2000000 in
theorem list1_member (D : Nat) (hV : ValC D) (S : List UInt8) (hS : S.length ≤ 8000) (b d base lo jb rb : Nat) (hdD : d + 1 + D = 20) (hb : Hi b) (hbase : base ≤ lo) (hjb : base ≤ jb) :
    Member 84 #[.pointer (some ⟨jb, 0, none⟩), .pointer (some ⟨rb, 0, none⟩)] b S d base (Js.val D) (fun xs w => ∃ kv, St jb rb b lo 6 (.slice none 0 0) kv [] xs w) where
  eg := enters_of Tryd.func84 (by kernel_rfl) rfl
  suf := Js.val_suf D
  con := Js.val_con D
  keep := fun xs w w' ⟨kv, h⟩ hk => ⟨kv, h.keep hk⟩
  call := by
    intro xs m q w hx ⟨kv, hst⟩ hT hbw hr hm
    have hc := fun v hv hT => hV S m b q (d + 1) v hS hdD hb hT hv hm
    go_enter Tryd.func84, Tryd.ntmps84
    refine kid_region S jb rb b q (d + 1) lo 2 11 6 (.slice none 0 0) kv [] xs (Js.val D m) _ 0 "read.go:107" _ w hst hx hb hT hr rfl rfl (by omega) (by omega) rfl rfl hc ?_ ?_
    · intro c r hR a w' hd hk
      refine panic_end hd ?_
      rw [hR]
      exact ⟨rfl, hk.mono hbw (fun _ _ h => h)⟩
    · intro j r hR a w' kv' hd hst' hr' hk
      refine normal_end rfl hd ?_
      rw [hR]
      exact ⟨rfl, ⟨kv', hst'⟩, hr', hk.mono hbase (fun g hg hm => by simp at hm ⊢; omega)⟩
theorem mf (fn : Fn) (first cap : Array Value) (w : World) : (Instr.makeFunc fn first cap).run Tryd.prog w = .ok (.func fn first cap) w := rfl
theorem St.start {w : World} {jb rb b lo : Nat} {k : Int} (h1 : w.heap[jb]? = some (.cells (jrow k [] (.slice none 0 0) (.slice none 0 0)).toArray 25 (0, 0))) (h2 : w.heap[rb]? = some (.cells [Value.pointer (some ⟨b, 0, none⟩)].toArray 87 (0, 0))) (hlo : lo = w.heap.size) (hb : b < lo) (hjr : jb ≠ rb) (hjb : jb ≠ b) (hrb : rb ≠ b) :
    St jb rb b lo k (.slice none 0 0) (.slice none 0 0) [] [] w := by
  subst hlo
  exact ⟨h1, h2, ⟨[], _, Acc.none _⟩, Nat.le_refl _, lt_of_heap h1, lt_of_heap h2, hb, hjr, hjb, hrb⟩
/-- Before the members are read. -/
theorem list_laid {w w1 w2 w3 w4 : World} {b p d : Nat} {S : List UInt8} {k : Int} (hlt : b < w.heap.size) (HR : Hid (Rd w b (bs S) p d)) (HT : Hid (Tb w)) (HRB : Hid (w1.heap[w.heap.size]? = some (.cells #[Value.pointer (some ⟨b, 0, none⟩)] 87 (0, 0)))) (HRBB : Hid (Below w.heap.size w w1))
    (hsz1 : w1.heap.size = w.heap.size + 1) (hg2 : Hid (w2.heap[w1.heap.size]? = some (.cells noRow.toArray 25 (0, 0)))) (hb2 : Hid (Below w1.heap.size w1 w2)) (hs2 : Hid (w2.heap.size = w1.heap.size + 1)) (_hg3 : Hid (w3.heap[w2.heap.size]? = some (.cells noRow.toArray 25 (0, 0))))
    (hb3 : Hid (Below w2.heap.size w2 w3)) (hs3 : Hid (w3.heap.size = w2.heap.size + 1)) (hg4 : Hid (w4.heap[w2.heap.size]? = some (.cells (jrow k [] (.slice none 0 0) (.slice none 0 0)).toArray 25 (0, 0)))) (hk4 : Hid (Kept w3.heap.size [w2.heap.size] w3 w4)) (hs4 : Hid (w4.heap.size = w3.heap.size)) :
    Hid (w4.cell? ⟨w.heap.size, 0, none⟩ = some (.pointer (some ⟨b, 0, none⟩))) ∧ Hid (Tb w4) ∧ Hid (Rd w4 b (bs S) p d) ∧ Hid (St w2.heap.size w.heap.size b w4.heap.size k (.slice none 0 0) (.slice none 0 0) [] [] w4) ∧ Hid (Kept w.heap.size [b] w w4) ∧ Hid (w2.heap.size ≤ w4.heap.size ∧ b < w2.heap.size ∧ w.heap.size ≤ w2.heap.size ∧ w1.heap.size < w2.heap.size ∧ w.heap.size < w1.heap.size) ∧ Hid (w4.heap[w1.heap.size]? = some (.cells noRow.toArray 25 (0, 0))) := by
  have e2 := hs2.out
  have e3 := hs3.out
  have e4 := hs4.out
  have K3 : Kept w.heap.size [] w w3 := (Kept.of_below HRBB.out).trans (((Kept.of_below hb2.out).trans ((Kept.of_below hb3.out).mono (by omega) (fun _ _ h => h))).mono (by omega) (fun _ _ h => h))
  have K4 : Kept w.heap.size [] w w4 := K3.trans (hk4.out.mono (by omega) (fun x hx hm => by simp at hm; omega))
  have hc : w4.heap[w.heap.size]? = some (.cells [Value.pointer (some ⟨b, 0, none⟩)].toArray 87 (0, 0)) := by
    refine hk4.out.heap ?_ (by omega) (by simp; omega)
    exact ((Kept.of_below (ws := []) hb2.out).trans ((Kept.of_below hb3.out).mono (by omega) (fun _ _ h => h))).heap HRB.out (by omega) (by simp)
  exact ⟨Lib.hid (by rw [cell_of_list hc]; rfl), Lib.hid (HT.out.below (K4.below (by simp))), Lib.hid ((K4.block b hlt (by simp)).trans HR.out), Lib.hid (St.start hg4.out hc rfl (by omega) (by omega) (by omega) (by omega)), Lib.hid (K4.mono (Nat.le_refl _) (by simp)), Lib.hid (by omega), Lib.hid (hk4.out.heap ((Kept.of_below (ws := []) hb3.out).heap hg2.out (by omega) (by simp)) (by omega) (by simp; omega))⟩
theorem St.made {jb rb b lo : Nat} {k : Int} {nv kv : Value} {ns : List (List UInt8)} {ks : List Js.J} {w : World} (h : St jb rb b lo k nv kv ns ks w) : w.heap[jb]? = some (.cells (jrow k [] nv kv).toArray 25 (0, 0)) ∧ Own w lo w.heap.size (.mk k [] ns ks) (jv k [] nv kv) ∧ nv.oneCell' = true ∧ kv.oneCell' = true := by
  obtain ⟨h1, _, ⟨vs, iv, acc⟩, _⟩ := h
  have o := acc.own k []
  obtain ⟨k', t', nv', kv', e, h3, h4⟩ := o.four
  unfold jv at e
  simp only [Value.agg.injEq, Array.mk.injEq, List.cons.injEq, and_true] at e
  obtain ⟨_, _, rfl, rfl⟩ := e
  exact ⟨h1, o, h3, h4⟩
/-- Behind the members. -/
theorem list_done {w w1 w2 w4 w5 : World} {rb b q d : Nat} {S : List UInt8} {k : Int} {nv kv : Value} {ns : List (List UInt8)} {ks : List Js.J} (hst : St w2.heap.size rb b w4.heap.size k nv kv ns ks w5) (hr5 : Rd w5 b (bs S) q d) (hk5 : Kept w2.heap.size [b] w4 w5)
    (L5 : Hid (Kept w.heap.size [b] w w4)) (L6 : Hid (w2.heap.size ≤ w4.heap.size ∧ b < w2.heap.size ∧ w.heap.size ≤ w2.heap.size ∧ w1.heap.size < w2.heap.size ∧ w.heap.size < w1.heap.size)) (L7 : Hid (w4.heap[w1.heap.size]? = some (.cells noRow.toArray 25 (0, 0)))) (hb : b < w.heap.size) :
    Hid (w5.heap[w2.heap.size]? = some (.cells (jrow k [] nv kv).toArray 25 (0, 0))) ∧ Hid (w5.heap[w1.heap.size]? = some (.cells noRow.toArray 25 (0, 0))) ∧ Hid (nv.oneCell' = true ∧ kv.oneCell' = true) ∧
      Hid (∀ w6, Kept w5.heap.size [w1.heap.size] w5 w6 → w6.heap.size = w5.heap.size → Made w (.mk k [] ns ks) (jv k [] nv kv) w6 ∧ Rd w6 b (bs S) q d ∧ Kept w.heap.size [b] w w6) := by
  obtain ⟨h1, h2, h3, h4⟩ := hst.made
  obtain ⟨a1, a2, a3, a4, a5⟩ := L6.out
  have hs5 := hk5.size
  refine ⟨Lib.hid h1, Lib.hid (hk5.heap L7.out a4 (by simp; omega)), Lib.hid ⟨h3, h4⟩, Lib.hid fun w6 hk6 hs6 => ⟨?_, (hk6.block b hr5.lt (by simp; omega)).trans hr5, ?_⟩⟩
  · unfold Made
    rw [hs6]
    exact (h2.frame fun g g1 g2 => hk6.block g g2 (by simp; omega)).mono (by omega) (Nat.le_refl _)
  · exact L5.out.trans ((hk5.mono a3 (fun _ _ h => h)).trans (hk6.mono (by omega) (fun x hx hm => by simp at hm; omega)))
set_option maxRecDepth 100000 in
set_option maxHeartbeats 4000000 in
theorem list_any (D : Nat) (hV : ValC D) (S r : List UInt8) (hS : S.length ≤ 8000) (b p d : Nat) (w : World) (hd : d + (D + 1) = 20) (hb : Hi b) (hT : Tb w) (hr : Rd w b (bs S) p d) (hl : Here S p (91 :: r)) :
    Calls Tryd.prog 62 #[.pointer (some ⟨b, 0, none⟩)] w (Out b S d w (Made w) ((Js.mems 93 (Js.val D) ((91 :: r).length + 1) true (Js.ws r)).map fun ks => .mk 6 [] [] ks)) := by
  have hlt := hr.lt
  have hmf := mf
  have HR := Lib.hid hr
  have HT := Lib.hid hT
  have hrb := heap_alloc_new w (.cells #[Value.pointer (some ⟨b, 0, none⟩)] 87)
  have hrbB := (Below.refl w.heap.size w).alloc (Nat.le_refl _) (.cells #[Value.pointer (some ⟨b, 0, none⟩)] 87)
  have HRB := Lib.hid hrb
  have HRBB := Lib.hid hrbB
  have hsz1 : (w.alloc (.cells #[Value.pointer (some ⟨b, 0, none⟩)] 87)).heap.size = w.heap.size + 1 := by simp
  have HMem := Lib.hid (fun lo jb (h1 : w.heap.size ≤ lo) (h2 : w.heap.size ≤ jb) => list1_member D hV S hS b d w.heap.size lo jb w.heap.size (by omega) hb h1 h2)
  have HME := Lib.hid (fun lo jb (h1 : jb ≤ lo) (h2 : b < jb) v (hv : jb ≤ v.heap.size) hT' hr' hI => members_any S r 91 hS 84 _ b p d jb (Js.val D) _ 93 v (list1_member D hV S hS b d jb lo jb w.heap.size (by omega) hb h1 (Nat.le_refl _)) hb h2 hv hT' (by omega) hr' hl hI)
  clear hr hT hrb hrbB hl
  generalize Js.mems 93 (Js.val D) ((91 :: r).length + 1) true (Js.ws r) = R at *
  cases R with
  | bad c q =>
    go_enter Tryd.func62, Tryd.ntmps62
    go_wp2_with (first | (refine wpList_alloc_v (w := w.alloc (.cells #[Value.pointer (some ⟨b, 0, none⟩)] 87)) rfl 25 rfl _ allocJson ?_; intro w2 hg2 hb2 hs2; go_frame) | (refine wpList_alloc_v (w := w2) rfl 25 rfl _ allocJson ?_; intro w3 hg3 hb3 hs3; go_frame) | (refine wpList_build_json1 rfl _ rfl 6 rfl ?_; go_frame) | (refine wpList_store_json rfl _ _ rfl w2.heap.size 6 [] (.slice none 0 0) (.slice none 0 0) noRow rfl rfl rfl rfl rfl hg3.out ?_; intro w4 hg4 hk4 hs4; obtain ⟨L1, L2, L3, L4, L5, L6, L7⟩ := list_laid hlt HR HT HRB HRBB hsz1 hg2 hb2 hs2 hg3 hb3 hs3 hg4 hk4 hs4; have L1o := L1.out; go_frame) | (go_at_call 83; refine (HME.out w4.heap.size w2.heap.size L6.out.1 L6.out.2.1 w4 L6.out.1 L2.out L3.out ⟨_, L4.out⟩).mono ?_; rintro e1 w5 ⟨rfl, hk5⟩))
    refine panic_end rfl ?_
    exact ⟨rfl, L5.out.trans (hk5.mono L6.out.2.2.1 (fun _ _ h => h))⟩
  | ok ks q =>
    go_enter Tryd.func62, Tryd.ntmps62
    go_wp2_with (first | (refine wpList_alloc_v (w := w.alloc (.cells #[Value.pointer (some ⟨b, 0, none⟩)] 87)) rfl 25 rfl _ allocJson ?_; intro w2 hg2 hb2 hs2; go_frame) | (refine wpList_alloc_v (w := w2) rfl 25 rfl _ allocJson ?_; intro w3 hg3 hb3 hs3; go_frame) | (refine wpList_build_json1 rfl _ rfl 6 rfl ?_; go_frame) | (refine wpList_store_json rfl _ _ rfl w2.heap.size 6 [] (.slice none 0 0) (.slice none 0 0) noRow rfl rfl rfl rfl rfl hg3.out ?_; intro w4 hg4 hk4 hs4; obtain ⟨L1, L2, L3, L4, L5, L6, L7⟩ := list_laid hlt HR HT HRB HRBB hsz1 hg2 hb2 hs2 hg3 hb3 hs3 hg4 hk4 hs4; have L1o := L1.out; go_frame) | (go_at_call 83; refine (HME.out w4.heap.size w2.heap.size L6.out.1 L6.out.2.1 w4 L6.out.1 L2.out L3.out ⟨_, L4.out⟩).mono ?_; rintro e1 w5 ⟨rfl, ⟨kv, hst⟩, hr5, hk5⟩; obtain ⟨J1, J2, J3, J4⟩ := list_done hst hr5 hk5 L5 L6 L7 hlt; clear hst hr5 hk5; go_frame) | (refine wpList_load_mid rfl 25 _ rfl w2.heap.size 0 rfl (jrow 6 [] (.slice none 0 0) kv) _ (range_of_list J1.out) Tryd.underlying25 rfl (by kernel_rfl) ?_; go_frame) | (refine wpList_store_json rfl _ _ rfl (w.alloc (.cells #[Value.pointer (some ⟨b, 0, none⟩)] 87)).heap.size 6 [] (.slice none 0 0) kv noRow rfl rfl J3.out.1 J3.out.2 rfl J2.out ?_; intro w6 hg6 hk6 hs6; go_frame))
    obtain ⟨D1, D2, D3⟩ := J4.out w6 hk6.out hs6.out
    refine bodyPost_ret (results_json rfl _ _ _ 6 [] _ _ rfl hg6.out) rfl ?_
    exact ⟨_, rfl, D1, D2, D3⟩
end Go.Proofs.YthfnlnhehececaaDoor

/- json.Parse. -/
import Derived.Test.YthfnlnhehececaaDoorNParse
import Derived.Test.YthfnlnhehececaaDoorNRead
namespace Go.Proofs.YthfnlnhehececaaDoor
open Go Go.RowKit

/-- What json.Parse comes to. -/
def OutE (w : World) : Js.Pr → Ending → World → Prop
  | .ok j, e, w' => ∃ v, e = .returned (.tuple #[v, .nilIface]) ∧ Made w j v w' ∧ Below w.heap.size w w'
  | .bad c p, e, w' => ∃ g : Nat, w.heap.size ≤ g ∧ e = .returned (.tuple #[.agg noRow.toArray, faultV g]) ∧ FaultAt g c p w' ∧ Below w.heap.size w w'
theorem Own.size {w : World} {lo hi : Nat} {j : Js.J} {v : Value} (h : Own w lo hi j v) (w' : World) (hf : ∀ g, lo ≤ g → g < hi → w'.heap[g]? = w.heap[g]?) : Own w' lo hi j v := h.frame hf
/-- The two results lie. -/
theorem parse_laid {w w1 : World} (hT : Hid (Tb w)) (hg1 : Hid (w1.heap[w.heap.size]? = some (.cells noRow.toArray 25 (0, 0)))) (hb1 : Hid (Below w.heap.size w w1)) (hs1 : Hid (w1.heap.size = w.heap.size + 1)) :
    Hid (Tb (w1.alloc (.cells #[.nilIface] 31))) ∧ Hid (Below w.heap.size w (w1.alloc (.cells #[.nilIface] 31))) ∧ Hid ((w1.alloc (.cells #[.nilIface] 31)).heap[w.heap.size]? = some (.cells noRow.toArray 25 (0, 0))) ∧ Hid ((w1.alloc (.cells #[.nilIface] 31)).heap[w1.heap.size]? = some (.cells [Value.nilIface].toArray 31 (0, 0))) ∧
      Hid ((w1.alloc (.cells #[.nilIface] 31)).heap.size = w1.heap.size + 1 ∧ w1.heap.size = w.heap.size + 1) := by
  have e1 := hs1.out
  have B2 : Below w.heap.size w (w1.alloc (.cells #[.nilIface] 31)) := hb1.out.alloc (by omega) _
  exact ⟨Lib.hid (hT.out.below B2), Lib.hid B2, Lib.hid ((Below.heap_alloc w1 _ _ (by omega)).trans hg1.out), Lib.hid (heap_alloc_new _ _), Lib.hid ⟨by simp, e1⟩⟩
theorem parse_ok {w w1 w2 w3 w4 w5 : World} {j : Js.J} {v : Value} (B2 : Below w.heap.size w w2) (N2 : w2.heap.size = w1.heap.size + 1 ∧ w1.heap.size = w.heap.size + 1) (hm : Made w2 j v w3) (hb3 : Below w2.heap.size w2 w3) (hk4 : Kept w3.heap.size [w.heap.size] w3 w4) (hs4 : w4.heap.size = w3.heap.size) (hk5 : Kept w4.heap.size [w1.heap.size] w4 w5) (hs5 : w5.heap.size = w4.heap.size) :
    Made w j v w5 ∧ Below w.heap.size w w5 := by
  have s3 := hb3.size
  refine ⟨?_, below_kept (below_kept (B2.trans (hb3.mono (by omega))) hk4 (by omega) (by omega)) hk5 (by omega) (by omega)⟩
  unfold Made at hm ⊢
  refine Own.mono (lo := w2.heap.size) (hi := w3.heap.size) (hm.frame fun g g1 g2 => ?_) (by omega) (by omega)
  rw [hk5.block g (by omega) (by simp; omega), hk4.block g (by omega) (by simp; omega)]
theorem results_two {fn : Func} {p q : Tmp} (h : fn.results = #[.cell p 25, .cell q 31]) (tmps : Array Value) (w : World) (g ge : Nat) (cs : List Value) (x : Value) (hp : tmps.getD p undef = .pointer (some ⟨g, 0, none⟩)) (hq : tmps.getD q undef = .pointer (some ⟨ge, 0, none⟩))
    (hg : w.heap[g]? = some (.cells cs.toArray 25 (0, 0))) (hl : cs.length = 4) (hge : w.heap[ge]? = some (.cells [x].toArray 31 (0, 0))) : (results fn tmps).run Tryd.prog w = .ok (.tuple #[.agg cs.toArray, x]) w := by
  have hp' : tmps[p]?.getD undef = .pointer (some ⟨g, 0, none⟩) := by simpa using hp
  have hq' : tmps[q]?.getD undef = .pointer (some ⟨ge, 0, none⟩) := by simpa using hq
  have h1 := run_loadVar_mid (P := Tryd.prog) w g 0 25 cs _ (range_of_list hg) Tryd.underlying25 rfl (by rw [hl]; kernel_rfl)
  have h2 : (isAgg 31).run Tryd.prog w = .ok false w := by kernel_rfl
  have h3 : w.cell? ⟨ge, 0, none⟩ = some x := by rw [cell_of_list hge]; rfl
  have h4 : (loadVar 31 ⟨ge, 0, none⟩).run Tryd.prog w = .ok x w := by
    unfold loadVar
    simp [h2, h3, go_sem]
  simp [results, h, hp', hq', asAddr, h1, h4]
set_option maxRecDepth 100000 in
set_option maxHeartbeats 4000000 in
theorem parse_any (S : List UInt8) (w : World) (hT : Tb w) : Calls Tryd.prog 10 #[.string (bs S)] w (OutE w (Js.parse S)) := by
  have hmf := mf
  have HT := Lib.hid hT
  have HR := Lib.hid (fun v hv => read_any S v hv)
  generalize Js.parse S = R at *
  generalize bs S = s at *
  clear hT
  cases R with
  | ok j =>
    obtain ⟨k, t, ns, ks⟩ := j
    go_enter_defers Tryd.func10, Tryd.ntmps10
    go_wp2_with (first | (refine wpList_alloc_v (w := w) rfl 25 rfl _ allocJson ?_; intro w1 hg1 hb1 hs1; obtain ⟨T2, B2, G2, E2, N2⟩ := parse_laid HT hg1 hb1 hs1; go_frame) | (go_at_call 25; refine (HR.out _ T2.out).mono ?_; rintro e1 w3 ⟨v, rfl, hm3, hb3⟩; have G3 := Lib.hid ((hb3.block _ (lt_of_heap G2.out)).trans G2.out); have E3 := Lib.hid ((hb3.block _ (lt_of_heap E2.out)).trans E2.out); have M3 := Lib.hid hm3; have HB3 := Lib.hid hb3; obtain ⟨nv, kv, rfl, hn1, hn2⟩ := Own.jv_ hm3; clear hm3 hb3; go_frame) | (refine wpList_store_json rfl _ _ rfl w.heap.size k t nv kv noRow rfl rfl hn1 hn2 rfl G3.out ?_; intro w4 hg4 hk4 hs4; have E4 := Lib.hid (hk4.out.heap E3.out (lt_of_heap E3.out) (by have := N2.out; simp; omega)); have c4 : w4.cell? ⟨w1.heap.size, 0, none⟩ = some .nilIface := by { rw [cell_of_list E4.out]; rfl }; have f4 := free_of_list E4.out 0; go_frame))
    have hk5 : Kept w4.heap.size [w1.heap.size] w4 (w4.setCell ⟨w1.heap.size, 0, none⟩ .nilIface) := kset _ 0 _
    have hg5 := hk5.heap hg4.out (lt_of_heap hg4.out) (by have := N2.out; simp; omega)
    have he5 : (w4.setCell ⟨w1.heap.size, 0, none⟩ .nilIface).heap[w1.heap.size]? = some (.cells [Value.nilIface].toArray 31 (0, 0)) := set_list E4.out 0 _
    refine leaves_cons (f := 24) (args := #[.pointer (some ⟨w.heap.size, 0, none⟩), .pointer (some ⟨w1.heap.size, 0, none⟩)]) (by simp) (by simp [go_sem]) ?_
    refine (catch_idle _ _ _).mono ?_
    rintro e u' w'' ⟨rfl, rfl, rfl⟩
    exact ⟨_, results_two rfl _ _ _ _ _ _ rfl rfl hg5 rfl he5, _, rfl, parse_ok B2.out N2.out M3.out HB3.out hk4.out hs4.out hk5 (by simp [World.setCell])⟩
  | bad c p =>
    go_enter_defers Tryd.func10, Tryd.ntmps10
    go_wp2_with (first | (refine wpList_alloc_v (w := w) rfl 25 rfl _ allocJson ?_; intro w1 hg1 hb1 hs1; obtain ⟨T2, B2, G2, E2, N2⟩ := parse_laid HT hg1 hb1 hs1; go_frame) | (go_at_call 25; refine (HR.out _ T2.out).mono ?_; rintro e1 w3 ⟨rfl, hb3⟩; have G3 := Lib.hid ((hb3.block _ (lt_of_heap G2.out)).trans G2.out); have E3 := Lib.hid ((hb3.block _ (lt_of_heap E2.out)).trans E2.out); have HB3 := Lib.hid hb3; clear hb3; go_frame))
    have n2 := N2.out
    have s3 := HB3.out.size
    refine leaves_cons (f := 24) (args := #[.pointer (some ⟨w.heap.size, 0, none⟩), .pointer (some ⟨w1.heap.size, 0, none⟩)]) (by simp) (by simp [go_sem]) ?_
    refine (catch_thrown c p w.heap.size w1.heap.size noRow rfl w3 (by omega) G3.out .nilIface E3.out).mono ?_
    rintro e u' w'' ⟨rfl, rfl, g, hg, hf, he5, hg5, hk5⟩
    refine ⟨_, results_two rfl _ _ _ _ _ _ rfl rfl hg5 rfl he5, g, by omega, rfl, hf, ?_⟩
    exact ((Kept.of_below (ws := [w.heap.size, w1.heap.size]) (B2.out.trans (HB3.out.mono (by omega)))).trans (hk5.mono (by omega) (fun _ _ h => h))).below (by simp; omega)
end Go.Proofs.YthfnlnhehececaaDoor

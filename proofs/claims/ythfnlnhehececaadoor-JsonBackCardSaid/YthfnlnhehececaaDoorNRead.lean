/- The program reads a whole text. -/
import Derived.Test.YthfnlnhehececaaDoorNVal
namespace Go.Proofs.YthfnlnhehececaaDoor
open Go Go.RowKit

/-- What the reading of a text comes to. -/
def OutP (w : World) : Js.Pr → Ending → World → Prop
  | .ok j, e, w' => ∃ v, e = .returned v ∧ Made w j v w' ∧ Below w.heap.size w w'
  | .bad c p, e, w' => e = .panicked (rfc c p) ∧ Below w.heap.size w w'
def rdRow (s : ByteArray) (p d : Nat) : List Value := [.string s, .int .i64 p, .int .i64 d]
theorem allocReader (w : World) : (Instr.alloc 73 true (.tuple #[])).run Tryd.prog w = .ok (.pointer (some ⟨w.heap.size, 0, none⟩)) (w.alloc (.cells (rdRow ⟨#[]⟩ 0 0).toArray 73)) := by kernel_rfl
theorem build_reader (s : ByteArray) (w : World) : (Instr.build 73 #[(0, .string s)]).run Tryd.prog w = .ok (.agg (rdRow s 0 0).toArray) w := by kernel_rfl
theorem wpList_build_reader {w : World} {ops : Array Oper} {rest : List Oper} {o : Oper} {a : Act} {Q : Exit → Act → World → Prop} (hgd : o.guard = none) (x : Operand) (ho : o.op = .build 73 #[(0, x)]) (s : ByteArray) (hx : a.eval x = .string s)
    (h : wpList Tryd.prog ops Q rest (a.put o.dst (.agg (rdRow s 0 0).toArray)) w) : wpList Tryd.prog ops Q (o :: rest) a w :=
  wpList_build hgd 73 _ ho _ (by simp only [List.map_toArray, List.map_cons, List.map_nil, hx]; exact build_reader s w) h
theorem wpList_store_reader {w : World} {ops : Array Oper} {rest : List Oper} {op : Oper} {a : Act} {Q : Exit → Act → World → Prop} (hgd : op.guard = none) (x y : Operand) (ho : op.op = .store 73 x y)
    (g : Nat) (s : ByteArray) (hx : a.eval x = .pointer (some ⟨g, 0, none⟩)) (hy : a.eval y = .agg (rdRow s 0 0).toArray)
    (hg : w.heap[g]? = some (.cells (rdRow ⟨#[]⟩ 0 0).toArray 73 (0, 0)))
    (h : ∀ w', Hid (Rd w' g s 0 0) → Hid (Kept w.heap.size [g] w w') → Hid (w'.heap.size = w.heap.size) → wpList Tryd.prog ops Q rest (a.put op.dst undef) w') : wpList Tryd.prog ops Q (op :: rest) a w :=
  wpList_store_whole hgd 73 x y ho g (rdRow s 0 0) (rdRow ⟨#[]⟩ 0 0) 73 hx hy hg rfl (by kernel_rfl) (by intro v hv; simp only [rdRow, List.mem_cons, List.not_mem_nil, or_false] at hv; rcases hv with rfl | rfl | rfl <;> rfl) h
/-- The reader is laid: the text's beginning. -/
theorem read_laid {w w1 w2 w3 : World} (hT : Hid (Tb w)) (hg1 : Hid (w1.heap[w.heap.size]? = some (.cells noRow.toArray 25 (0, 0)))) (hb1 : Hid (Below w.heap.size w w1)) (hs1 : Hid (w1.heap.size = w.heap.size + 1)) (hb2 : Hid (Below w1.heap.size w1 w2)) (hs2 : Hid (w2.heap.size = w1.heap.size + 1))
    (hk3 : Hid (Kept w2.heap.size [w1.heap.size] w2 w3)) (hs3 : Hid (w3.heap.size = w2.heap.size)) :
    Hid (Tb w3) ∧ Hid (Below w.heap.size w w3) ∧ Hid (Hi w1.heap.size) ∧ Hid (w3.heap[w.heap.size]? = some (.cells noRow.toArray 25 (0, 0))) ∧ Hid (w.heap.size < w1.heap.size ∧ w1.heap.size < w3.heap.size) := by
  have e1 := hs1.out
  have e2 := hs2.out
  have e3 := hs3.out
  have B2 : Below w.heap.size w w2 := hb1.out.trans (hb2.out.mono (by omega))
  have B3 : Below w.heap.size w w3 := below_kept B2 hk3.out (by omega) (by omega)
  refine ⟨Lib.hid (hT.out.below B3), Lib.hid B3, Lib.hid (hT.out.hi (by omega)), Lib.hid (hk3.out.heap ((Kept.of_below (ws := []) hb2.out).heap hg1.out (by omega) (by simp)) (by omega) (by simp; omega)), Lib.hid (by omega)⟩
/-- A step with the reader: what lay lies. -/
theorem read_step {w w1 u u' : World} {b : Nat} (hB : Hid (Below w.heap.size w u)) (hN : Hid (w.heap.size < b ∧ b < u.heap.size)) (hg : Hid (u.heap[w.heap.size]? = some (.cells noRow.toArray 25 (0, 0)))) (_ : w1 = w1) (hk : Kept u.heap.size [b] u u') :
    Hid (Below w.heap.size w u') ∧ Hid (w.heap.size < b ∧ b < u'.heap.size) ∧ Hid (u'.heap[w.heap.size]? = some (.cells noRow.toArray 25 (0, 0))) := by
  have h1 := hN.out
  have h2 := hk.size
  exact ⟨Lib.hid (below_kept hB.out hk (by omega) (by omega)), Lib.hid (by omega), Lib.hid (hk.heap hg.out (by omega) (by simp; omega))⟩
/-- Behind the value that is put by. -/
theorem read_put {w w5 w6 w7 w8 : World} {b : Nat} {xs : List Value} (N5 : Hid (w.heap.size < b ∧ b < w5.heap.size)) (G5 : Hid (w5.heap[w.heap.size]? = some (.cells noRow.toArray 25 (0, 0)))) (hb6 : Hid (Below w5.heap.size w5 w6)) (hs6 : Hid (w6.heap.size = w5.heap.size + 1))
    (hg7 : Hid (w7.heap[w5.heap.size]? = some (.cells xs.toArray 25 (0, 0)))) (hk7 : Hid (Kept w6.heap.size [w5.heap.size] w6 w7)) (hs7 : Hid (w7.heap.size = w6.heap.size)) (K8 : Hid (Kept w7.heap.size [b] w7 w8)) (B5 : Hid (Below w.heap.size w w5)) :
    Hid (w8.heap[w5.heap.size]? = some (.cells xs.toArray 25 (0, 0))) ∧ Hid (w8.heap[w.heap.size]? = some (.cells noRow.toArray 25 (0, 0))) ∧ Hid (Below w.heap.size w w8) := by
  have n5 := N5.out
  have s6 := hs6.out
  have s7 := hs7.out
  exact ⟨Lib.hid (K8.out.heap hg7.out (by omega) (by simp; omega)), Lib.hid (K8.out.heap (hk7.out.heap ((Kept.of_below (ws := []) hb6.out).heap G5.out (by omega) (by simp)) (by omega) (by simp; omega)) (by omega) (by simp; omega)),
    Lib.hid (below_kept (below_kept (B5.out.trans (hb6.out.mono (by omega))) hk7.out (by omega) (by omega)) K8.out (by omega) (by omega))⟩
/-- The value is put by, and into the result. -/
theorem read_done {w u v u1 u2 u3 u4 : World} {b : Nat} {j : Js.J} {x : Value} (hB : Hid (Below w.heap.size w u)) (hN : Hid (w.heap.size < b ∧ b < u.heap.size)) (hm : Hid (Made v j x u)) (hv : Hid (w.heap.size < v.heap.size ∧ b < v.heap.size)) (h1 : Hid (Below u.heap.size u u1)) (h2 : Hid (Kept u1.heap.size [u.heap.size] u1 u2)) (h3 : Kept u2.heap.size [b] u2 u3)
    (h4 : Hid (Kept u3.heap.size [w.heap.size] u3 u4)) (_ : Hid (u2.heap.size = u1.heap.size)) (hs4 : Hid (u4.heap.size = u3.heap.size)) : Made w j x u4 ∧ Below w.heap.size w u4 := by
  have n1 := hN.out
  have n2 := hv.out
  have s1 := h1.out.size
  have s2 := h2.out.size
  have s3 := h3.size
  have s4 := hs4.out
  have B4 : Below w.heap.size w u4 := below_kept (below_kept (below_kept (hB.out.trans (h1.out.mono (by omega))) h2.out (by omega) (by omega)) h3 (by omega) (by omega)) h4.out (Nat.le_refl _) (by omega)
  refine ⟨?_, B4⟩
  unfold Made
  have f := hm.out
  unfold Made at f
  refine Own.mono (lo := v.heap.size) (hi := u.heap.size) (f.frame fun g g1 g2 => ?_) (by omega) (by omega)
  rw [h4.out.block g (by omega) (by simp; omega), h3.block g (by omega) (by simp; omega), h2.out.block g (by omega) (by simp; omega), h1.out.block g g2]
set_option maxRecDepth 100000 in
set_option maxHeartbeats 2000000 in
theorem read_long (S : List UInt8) (hS : 8000 < S.length) (w : World) :
    Calls Tryd.prog 25 #[.string (bs S)] w (OutP w (.bad 56 0)) := by
  have hss : (bs S).size = S.length := bs_size S
  generalize bs S = s at *
  go_enter Tryd.func25, Tryd.ntmps25
  go_wp2_with (first | (refine wpList_alloc_v (w := w) rfl 25 rfl _ allocJson ?_; intro w1 hg1 hb1 hs1; go_frame))
  exact ⟨rfl, rfl, hb1.out⟩
set_option maxRecDepth 100000 in
set_option maxHeartbeats 2000000 in
theorem read_bad (S : List UInt8) (hS : S.length ≤ 8000) (w : World) (hT : Tb w) (c : Nat) (q : List UInt8) (hv : Js.val 20 (Js.ws S) = .bad c q) :
    Calls Tryd.prog 25 #[.string (bs S)] w (OutP w (.bad c (S.length - q.length))) := by
  have HT := Lib.hid hT
  have SB := Lib.hid (fun b v hv => skipBlanks_any S S (by omega) b 0 0 v hv ⟨List.drop_zero, by simp⟩)
  have HV := Lib.hid (fun b v hb hT hv => value_any 20 S (Js.ws S) b (S.length - (Js.ws S).length) 0 v hS (by omega) hb hT hv (Here.of (Js.ws_suf S)))
  have hss : (bs S).size = S.length := bs_size S
  clear hT
  rw [hv] at HV
  clear hv
  obtain ⟨s, hs⟩ : ∃ s, s = bs S := ⟨_, rfl⟩
  have HE := Lib.hid hs
  rw [← hs]
  rw [← hs] at hss
  simp only [← hs] at SB HV
  clear hs
  go_enter Tryd.func25, Tryd.ntmps25
  go_wp2_with (first | (refine wpList_alloc_v (w := w) rfl 25 rfl _ allocJson ?_; intro w1 hg1 hb1 hs1; go_frame) | (refine wpList_build_reader rfl _ rfl s rfl ?_; go_frame) | (refine wpList_alloc_v (w := w1) rfl 73 rfl _ allocReader ?_; intro w2 hg2 hb2 hs2; go_frame) | (refine wpList_store_reader rfl _ _ rfl w1.heap.size s rfl rfl hg2.out ?_; intro w3 hr3 hk3 hs3; obtain ⟨T3, B3, I3, G3, N3⟩ := read_laid HT hg1 hb1 hs1 hb2 hs2 hk3 hs3; go_frame) | (go_at_call 38; refine (SB.out w1.heap.size w3 hr3.out).mono ?_; rintro e1 w4 ⟨rfl, hr4, hk4⟩; obtain ⟨B4, N4, G4⟩ := read_step (w1 := w1) B3 N3 G3 rfl hk4; have T4 := Lib.hid (T3.out.keep I3.out hk4); clear SB hk4; go_frame) | (go_at_call 39; refine (HV.out w1.heap.size w4 I3.out T4.out hr4).mono ?_; rintro e1 w5 ⟨rfl, hk5⟩; have B5 := (read_step (w1 := w1) B4 N4 G4 rfl hk5).1; clear hk5; go_frame))
  exact ⟨rfl, rfl, B5.out⟩
set_option maxRecDepth 100000 in
set_option maxHeartbeats 2000000 in
theorem read_behind (S : List UInt8) (hS : S.length ≤ 8000) (w : World) (hT : Tb w) (j : Js.J) (q : List UInt8) (hv : Js.val 20 (Js.ws S) = .ok j q) (hq0 : Js.ws q ≠ []) :
    Calls Tryd.prog 25 #[.string (bs S)] w (OutP w (.bad 54 (S.length - (Js.ws q).length))) := by
  have HT := Lib.hid hT
  have SB := Lib.hid (fun b v hv => skipBlanks_any S S (by omega) b 0 0 v hv ⟨List.drop_zero, by simp⟩)
  have HV := Lib.hid (fun b v hb hT hv => value_any 20 S (Js.ws S) b (S.length - (Js.ws S).length) 0 v hS (by omega) hb hT hv (Here.of (Js.ws_suf S)))
  have hss : (bs S).size = S.length := bs_size S
  rw [hv] at HV
  have hsf := Js.val_suf 20 (Js.ws S)
  rw [hv] at hsf
  have hq : Here S (S.length - q.length) q := Here.of (hsf.trans (Js.ws_suf S))
  have SB2 := Lib.hid (fun b v hv => skipBlanks_any S q (by omega) b _ 0 v hv hq)
  have hle : (Js.ws q).length ≤ S.length := ((Js.ws_suf q).trans hq.suf).length_le
  obtain ⟨k, t, ns, ks⟩ := j
  clear hT hv hsf hq
  have hlt : 0 < (Js.ws q).length := List.length_pos_iff.2 hq0
  have hcmp : ((S.length - (Js.ws q).length : Nat) : Int) < (S.length : Int) := by omega
  obtain ⟨s, hs⟩ : ∃ s, s = bs S := ⟨_, rfl⟩
  have HE := Lib.hid hs
  rw [← hs]
  rw [← hs] at hss
  simp only [← hs] at SB HV
  clear hs
  simp only [← HE.out] at SB2
  go_enter Tryd.func25, Tryd.ntmps25
  go_wp2_with (first | (refine wpList_alloc_v (w := w) rfl 25 rfl _ allocJson ?_; intro w1 hg1 hb1 hs1; go_frame) | (refine wpList_build_reader rfl _ rfl s rfl ?_; go_frame) | (refine wpList_alloc_v (w := w1) rfl 73 rfl _ allocReader ?_; intro w2 hg2 hb2 hs2; go_frame) | (refine wpList_store_reader rfl _ _ rfl w1.heap.size s rfl rfl hg2.out ?_; intro w3 hr3 hk3 hs3; obtain ⟨T3, B3, I3, G3, N3⟩ := read_laid HT hg1 hb1 hs1 hb2 hs2 hk3 hs3; go_frame) | (go_at_call 38; refine (SB.out w1.heap.size w3 hr3.out).mono ?_; rintro e1 w4 ⟨rfl, hr4, hk4⟩; obtain ⟨B4, N4, G4⟩ := read_step (w1 := w1) B3 N3 G3 rfl hk4; have T4 := Lib.hid (T3.out.keep I3.out hk4); clear SB hk4; go_frame) | (go_at_call 39; refine (HV.out w1.heap.size w4 I3.out T4.out hr4).mono ?_; rintro e1 w5 ⟨x1, rfl, hm5, hr5, hk5⟩; obtain ⟨B5, N5, G5⟩ := read_step (w1 := w1) B4 N4 G4 rfl hk5; have M5 := Lib.hid hm5; have N4' := Lib.hid (show w.heap.size < w4.heap.size ∧ w1.heap.size < w4.heap.size from ⟨Nat.lt_trans N4.out.1 N4.out.2, N4.out.2⟩); obtain ⟨nv, kv, rfl, hn1, hn2⟩ := Own.jv_ hm5; rw [← HE.out] at hr5; clear hm5 hk5; go_frame) | (refine wpList_alloc_v (w := w5) rfl 25 rfl _ allocJson ?_; intro w6 hg6 hb6 hs6; go_frame) | (refine wpList_store_json rfl _ _ rfl w5.heap.size k t nv kv noRow rfl rfl hn1 hn2 rfl hg6.out ?_; intro w7 hg7 hk7 hs7; have R7 := Lib.hid ((hk7.out.block _ (Nat.lt_of_lt_of_le N5.out.2 hb6.out.size) (by have := N5.out.2; simp; omega)).trans ((hb6.out.block _ N5.out.2).trans hr5) : Rd w7 w1.heap.size s (S.length - q.length) 0); go_frame) | (go_at_call 38; refine (SB2.out w1.heap.size w7 R7.out).mono ?_; rintro e1 w8 ⟨rfl, hr8, hk8⟩; have H8 := Lib.hid hr8; have K8 := Lib.hid hk8; have c1 := hr8.c1; clear SB2 hr8 hk8; obtain ⟨L8, G8, B8⟩ := read_put N5 G5 hb6 hs6 hg7 hk7 hs7 K8 B5; go_frame))
  exact ⟨rfl, rfl, B8.out⟩
set_option maxRecDepth 100000 in
set_option maxHeartbeats 2000000 in
theorem read_ok (S : List UInt8) (hS : S.length ≤ 8000) (w : World) (hT : Tb w) (j : Js.J) (q : List UInt8) (hv : Js.val 20 (Js.ws S) = .ok j q) (hq0 : Js.ws q = []) :
    Calls Tryd.prog 25 #[.string (bs S)] w (OutP w (.ok j)) := by
  have HT := Lib.hid hT
  have SB := Lib.hid (fun b v hv => skipBlanks_any S S (by omega) b 0 0 v hv ⟨List.drop_zero, by simp⟩)
  have HV := Lib.hid (fun b v hb hT hv => value_any 20 S (Js.ws S) b (S.length - (Js.ws S).length) 0 v hS (by omega) hb hT hv (Here.of (Js.ws_suf S)))
  have hss : (bs S).size = S.length := bs_size S
  rw [hv] at HV
  have hsf := Js.val_suf 20 (Js.ws S)
  rw [hv] at hsf
  have hq : Here S (S.length - q.length) q := Here.of (hsf.trans (Js.ws_suf S))
  have SB2 := Lib.hid (fun b v hv => skipBlanks_any S q (by omega) b _ 0 v hv hq)
  have hle : (Js.ws q).length ≤ S.length := ((Js.ws_suf q).trans hq.suf).length_le
  obtain ⟨k, t, ns, ks⟩ := j
  clear hT hv hsf hq
  have hl0 : (Js.ws q).length = 0 := by rw [hq0]; rfl
  have hcmp : ¬ ((S.length - (Js.ws q).length : Nat) : Int) < (S.length : Int) := by omega
  obtain ⟨s, hs⟩ : ∃ s, s = bs S := ⟨_, rfl⟩
  have HE := Lib.hid hs
  rw [← hs]
  rw [← hs] at hss
  simp only [← hs] at SB HV
  clear hs
  simp only [← HE.out] at SB2
  go_enter Tryd.func25, Tryd.ntmps25
  go_wp2_with (first | (refine wpList_alloc_v (w := w) rfl 25 rfl _ allocJson ?_; intro w1 hg1 hb1 hs1; go_frame) | (refine wpList_build_reader rfl _ rfl s rfl ?_; go_frame) | (refine wpList_alloc_v (w := w1) rfl 73 rfl _ allocReader ?_; intro w2 hg2 hb2 hs2; go_frame) | (refine wpList_store_reader rfl _ _ rfl w1.heap.size s rfl rfl hg2.out ?_; intro w3 hr3 hk3 hs3; obtain ⟨T3, B3, I3, G3, N3⟩ := read_laid HT hg1 hb1 hs1 hb2 hs2 hk3 hs3; go_frame) | (go_at_call 38; refine (SB.out w1.heap.size w3 hr3.out).mono ?_; rintro e1 w4 ⟨rfl, hr4, hk4⟩; obtain ⟨B4, N4, G4⟩ := read_step (w1 := w1) B3 N3 G3 rfl hk4; have T4 := Lib.hid (T3.out.keep I3.out hk4); clear SB hk4; go_frame) | (go_at_call 39; refine (HV.out w1.heap.size w4 I3.out T4.out hr4).mono ?_; rintro e1 w5 ⟨x1, rfl, hm5, hr5, hk5⟩; obtain ⟨B5, N5, G5⟩ := read_step (w1 := w1) B4 N4 G4 rfl hk5; have M5 := Lib.hid hm5; have N4' := Lib.hid (show w.heap.size < w4.heap.size ∧ w1.heap.size < w4.heap.size from ⟨Nat.lt_trans N4.out.1 N4.out.2, N4.out.2⟩); obtain ⟨nv, kv, rfl, hn1, hn2⟩ := Own.jv_ hm5; rw [← HE.out] at hr5; clear hm5 hk5; go_frame) | (refine wpList_alloc_v (w := w5) rfl 25 rfl _ allocJson ?_; intro w6 hg6 hb6 hs6; go_frame) | (refine wpList_store_json rfl _ _ rfl w5.heap.size k t nv kv noRow rfl rfl hn1 hn2 rfl hg6.out ?_; intro w7 hg7 hk7 hs7; have R7 := Lib.hid ((hk7.out.block _ (Nat.lt_of_lt_of_le N5.out.2 hb6.out.size) (by have := N5.out.2; simp; omega)).trans ((hb6.out.block _ N5.out.2).trans hr5) : Rd w7 w1.heap.size s (S.length - q.length) 0); go_frame) | (go_at_call 38; refine (SB2.out w1.heap.size w7 R7.out).mono ?_; rintro e1 w8 ⟨rfl, hr8, hk8⟩; have H8 := Lib.hid hr8; have K8 := Lib.hid hk8; have c1 := hr8.c1; clear SB2 hr8 hk8; obtain ⟨L8, G8, B8⟩ := read_put N5 G5 hb6 hs6 hg7 hk7 hs7 K8 B5; go_frame) | (refine wpList_load_mid rfl 25 _ rfl w5.heap.size 0 rfl (jrow k t nv kv) _ (range_of_list L8.out) Tryd.underlying25 rfl (by kernel_rfl) ?_; go_frame) | (refine wpList_store_json rfl _ _ rfl w.heap.size k t nv kv noRow rfl rfl hn1 hn2 rfl G8.out ?_; intro w9 hg9 hk9 hs9; go_frame))
  obtain ⟨D1, D2⟩ := read_done B5 N5 M5 N4' hb6 hk7 K8.out hk9 hs7 hs9
  refine bodyPost_ret (results_json rfl _ _ _ k t _ _ rfl hg9.out) rfl ?_
  exact ⟨_, rfl, D1, D2⟩
theorem read_any (S : List UInt8) (w : World) (hT : Tb w) : Calls Tryd.prog 25 #[.string (bs S)] w (OutP w (Js.parse S)) := by
  unfold Js.parse
  by_cases hS : 8000 < S.length
  · rw [if_pos hS]
    exact read_long S hS w
  · rw [if_neg hS]
    cases hv : Js.val 20 (Js.ws S) with
    | bad c q => exact read_bad S (by omega) w hT c q hv
    | ok j q =>
      simp only []
      by_cases hq : Js.ws q = []
      · rw [hq]
        exact read_ok S (by omega) w hT j q hv hq
      · rw [if_neg (by simpa using hq)]
        exact read_behind S (by omega) w hT j q hv hq
end Go.Proofs.YthfnlnhehececaaDoor

/- The program reads a word and a number. -/
import Derived.Test.YthfnlnhehececaaDoorNOwn
namespace Go.Proofs.YthfnlnhehececaaDoor
open Go.RowKit

/-- A value that is made is its owner's. -/
def Made (w : World) (j : Js.J) (v : Value) (w' : World) : Prop := Own w' w.heap.size w'.heap.size j v
theorem leaf_own (w : World) (lo hi : Nat) (k : Int) (t : List UInt8) : Own w lo hi (.mk k t [] []) (jv k t (.slice none 0 0) (.slice none 0 0)) :=
  ((Acc.none (w := w) lo).own k t).mono (Nat.le_refl _) (Nat.le_refl _) |> fun h => by
    cases h with
    | mk _ _ _ _ _ _ _ _ vs iv hn hk hf hl hnb hkb hiv hsep hno hs =>
      exact .mk lo hi k t [] [] _ _ vs iv hn hk hf hl (fun g hg => by cases hg) (fun g hg => by cases hg) (fun i hi => by simp at hi) (fun i j _ hj => by simp at hj) (fun i g hi _ => by simp at hi) (fun i j v hj => by simp at hj)
/-- A value's four cells. -/
def jrow (k : Int) (t : List UInt8) (nv kv : Value) : List Value := [.int .i64 k, .string (bs t), nv, kv]
theorem jv_row (k : Int) (t : List UInt8) (nv kv : Value) : Value.agg (jrow k t nv kv).toArray = jv k t nv kv := rfl
def noRow : List Value := [.int .i64 0, .string ⟨#[]⟩, .slice none 0 0, .slice none 0 0]
theorem noRow_eq : noRow = jrow 0 [] (.slice none 0 0) (.slice none 0 0) := by unfold noRow jrow; rw [bs_nil]
theorem allocJson (w : World) : (Instr.alloc 25 true (.tuple #[])).run Tryd.prog w = .ok (.pointer (some ⟨w.heap.size, 0, none⟩)) (w.alloc (.cells noRow.toArray 25)) := by kernel_rfl
/-- A new variable, in a world that is a letter. -/
theorem wpList_alloc_v {P : Program} {w : World} {ops : Array Oper} {rest : List Oper} {o : Oper} {a : Act} {Q : Exit → Act → World → Prop} (hgd : o.guard = none) (T : TypeId) (ho : o.op = .alloc T) (zs : List Value)
    (hz : ∀ w : World, (Instr.alloc T true (.tuple #[])).run P w = .ok (.pointer (some ⟨w.heap.size, 0, none⟩)) (w.alloc (.cells zs.toArray T)))
    (h : ∀ w', Hid (w'.heap[w.heap.size]? = some (.cells zs.toArray T (0, 0))) → Hid (Below w.heap.size w w') → Hid (w'.heap.size = w.heap.size + 1) → wpList P ops Q rest (a.put o.dst (.pointer (some ⟨w.heap.size, 0, none⟩))) w') : wpList P ops Q (o :: rest) a w :=
  wpList_alloc hgd T ho zs hz (h _ (Lib.hid (heap_alloc_new _ _)) (Lib.hid ((Below.refl _ _).alloc (Nat.le_refl _) _)) (Lib.hid (by simp)))
theorem jrow_ones (k : Int) (t : List UInt8) {nv kv : Value} (hn : nv.oneCell' = true) (hk : kv.oneCell' = true) : ∀ v ∈ jrow k t nv kv, v.oneCell' = true := by
  intro v hv
  simp only [jrow, List.mem_cons, List.not_mem_nil, or_false] at hv
  rcases hv with rfl | rfl | rfl | rfl
  · rfl
  · rfl
  · exact hn
  · exact hk
/-- A value stored whole into a variable. -/
theorem wpList_store_json {w : World} {ops : Array Oper} {rest : List Oper} {op : Oper} {a : Act} {Q : Exit → Act → World → Prop} (hgd : op.guard = none) (x y : Operand) (ho : op.op = .store 25 x y)
    (g : Nat) (k : Int) (t : List UInt8) (nv kv : Value) (old : List Value) (hx : a.eval x = .pointer (some ⟨g, 0, none⟩)) (hy : a.eval y = jv k t nv kv) (hn : nv.oneCell' = true) (hk : kv.oneCell' = true) (hol : old.length = 4)
    (hg : w.heap[g]? = some (.cells old.toArray 25 (0, 0)))
    (h : ∀ w', Hid (w'.heap[g]? = some (.cells (jrow k t nv kv).toArray 25 (0, 0))) → Hid (Kept w.heap.size [g] w w') → Hid (w'.heap.size = w.heap.size) → wpList Tryd.prog ops Q rest (a.put op.dst undef) w') : wpList Tryd.prog ops Q (op :: rest) a w :=
  wpList_store_whole hgd 25 x y ho g (jrow k t nv kv) old 25 hx hy hg (by rw [hol]; rfl) (by kernel_rfl) (jrow_ones k t hn hk) h
theorem build_json1 (k : Int) (w : World) : (Instr.build 25 #[(0, .int .i64 k)]).run Tryd.prog w = .ok (.agg (jrow k [] (.slice none 0 0) (.slice none 0 0)).toArray) w := by
  have : (Instr.build 25 #[(0, .int .i64 k)]).run Tryd.prog w = .ok (.agg #[.int .i64 k, .string ⟨#[]⟩, .slice none 0 0, .slice none 0 0]) w := by kernel_rfl
  rw [this, jrow, bs_nil]
theorem build_json2 (k : Int) (t : List UInt8) (w : World) : (Instr.build 25 #[(0, .int .i64 k), (1, .string (bs t))]).run Tryd.prog w = .ok (.agg (jrow k t (.slice none 0 0) (.slice none 0 0)).toArray) w := by
  generalize hs : bs t = s
  have : (Instr.build 25 #[(0, .int .i64 k), (1, .string s)]).run Tryd.prog w = .ok (.agg #[.int .i64 k, .string s, .slice none 0 0, .slice none 0 0]) w := by kernel_rfl
  rw [this, jrow, hs]
theorem wpList_build_json1 {w : World} {ops : Array Oper} {rest : List Oper} {o : Oper} {a : Act} {Q : Exit → Act → World → Prop} (hgd : o.guard = none) (x : Operand) (ho : o.op = .build 25 #[(0, x)]) (k : Int) (hx : a.eval x = .int .i64 k)
    (h : wpList Tryd.prog ops Q rest (a.put o.dst (jv k [] (.slice none 0 0) (.slice none 0 0))) w) : wpList Tryd.prog ops Q (o :: rest) a w :=
  wpList_build hgd 25 _ ho _ (by simp only [List.map_toArray, List.map_cons, List.map_nil, hx]; exact build_json1 k w) h
theorem wpList_build_json2 {w : World} {ops : Array Oper} {rest : List Oper} {o : Oper} {a : Act} {Q : Exit → Act → World → Prop} (hgd : o.guard = none) (x y : Operand) (ho : o.op = .build 25 #[(0, x), (1, y)]) (k : Int) (t : List UInt8) (hx : a.eval x = .int .i64 k) (hy : a.eval y = .string (bs t))
    (h : wpList Tryd.prog ops Q rest (a.put o.dst (jv k t (.slice none 0 0) (.slice none 0 0))) w) : wpList Tryd.prog ops Q (o :: rest) a w :=
  wpList_build hgd 25 _ ho _ (by simp only [List.map_toArray, List.map_cons, List.map_nil, hx, hy]; exact build_json2 k t w) h
theorem results_json {fn : Func} {p : Tmp} (h : fn.results = #[.cell p 25]) (tmps : Array Value) (w : World) (g : Nat) (k : Int) (t : List UInt8) (nv kv : Value) (hp : tmps.getD p undef = .pointer (some ⟨g, 0, none⟩))
    (hg : w.heap[g]? = some (.cells (jrow k t nv kv).toArray 25 (0, 0))) : (results fn tmps).run Tryd.prog w = .ok (jv k t nv kv) w :=
  results_mid h tmps w g 0 (jrow k t nv kv) _ hp (range_of_list hg) Tryd.underlying25 rfl (by kernel_rfl)
attribute [local go_sem high] run_index_byte
set_option maxRecDepth 100000 in
set_option maxHeartbeats 4000000 in
theorem word_any (S l W : List UInt8) (hS : S.length ≤ 8000) (hW : W.length ≤ 10) (k : Int) (b p d : Nat) (w : World) (hr : Rd w b (bs S) p d) (hl : Here S p l) :
    Calls Tryd.prog 60 #[.pointer (some ⟨b, 0, none⟩), .string (bs W), .int .i64 k] w (Out b S d w (Made w) ((Js.wd W l).map fun _ => .mk k [] [] [])) := by
  have hlt := hr.lt
  obtain ⟨R, hR⟩ : ∃ R, R = Js.wd W l := ⟨_, rfl⟩
  rw [← hR]
  obtain ⟨N, hN⟩ : ∃ N, N = W.length := ⟨_, rfl⟩
  have HN := Lib.hid hN
  rw [← hN] at hW
  obtain ⟨s, hs⟩ : ∃ s, s = bs W := ⟨_, rfl⟩
  have hss : s.size = N := by rw [hs, bs_size, hN]
  have HST := Lib.hid (fun i => show strAt s i = W.getD i 0 by rw [hs]; rw [strAt_eq, bs_list])
  rw [← hs]
  clear hs hN
  have HR := Lib.hid hr
  have HL := Lib.hid hl
  have HX := Lib.hid (show R = Js.wd (W.drop 0) l by rw [hR, List.drop_zero])
  have HTH := Lib.hid (fun (c : UInt8) (q : Nat) (m : List UInt8) (hm : Here S q (c :: m)) v hv => take_hit S m (by omega) c b q d v hv hm)
  have HTM := Lib.hid (fun (c : UInt8) (q : Nat) (m : List UInt8) (hm : Here S q m) (hh : m.head? ≠ some c) v hv => take_miss S m c b q d v hv hm hh)
  clear hr hl hR
  go_enter Tryd.func60, Tryd.ntmps60
  go_wp2_with (first | (refine wpList_alloc_v rfl 25 rfl _ allocJson ?_; intro w1 hg1 hb1 hs1; go_frame))
  have hz1 := hs1.out
  have R1 := Lib.hid (HR.out.below hb1.out)
  go_loopw [7, 10] (fun _ iv wr => ∃ (j : Nat) (m : List UInt8) (q : Nat), j ≤ N ∧ iv = .int .i64 j ∧ Hid (R = Js.wd (W.drop j) m) ∧ Hid (Here S q m) ∧ Hid (Rd wr b (bs S) q d) ∧ Hid (Kept w1.heap.size [b] w1 wr)) (fun _ iv _ => N - (intOf iv).toNat)
  case atStart => exact ⟨0, l, p, by omega, rfl, HX, HL, R1, Lib.hid (Kept.refl _ _ _)⟩
  case round =>
    clear HX HL R1 HR
    obtain ⟨j, m, q, hj, rfl, hx, hh, hrd, hk⟩ := hrel
    by_cases hjl : j < N
    · have hc : W.drop j = strAt s j :: W.drop (j + 1) := by
        have hl2 : j < W.length := by rw [← HN.out]; exact hjl
        rw [HST.out, List.getD, List.getElem?_eq_getElem hl2]
        exact List.drop_eq_getElem_cons hl2
      have RI : ∀ v : World, (Instr.index 9 (.string s) (.int .i64 (j : Int))).run Tryd.prog v = .ok (.int .u8 ((strAt s j).toNat : Int)) v := fun v => run_index_byte v _ _ _ j Tryd.underlying9 (by omega)
      have hx2 := hx.out
      rw [hc, Js.wd] at hx2
      generalize strAt s j = c at *
      by_cases hm : m.head? = some c
      · cases m with
        | nil => cases hm
        | cons c' m =>
          obtain rfl : c' = c := by simpa using hm
          rw [Js.tk_hit] at hx2
          have HX2 := Lib.hid (show R = Js.wd (W.drop (j + 1)) m from hx2)
          have A := Lib.hid (HTH.out c' q m hh.out wr hrd.out)
          clear hx2 hx hc hm
          go_wp2_with (first | (go_at_call 79; refine A.out.mono ?_; rintro e w2 ⟨rfl, hr2, hk2⟩))
          go_roundw
          case rel => exact ⟨j + 1, m, q + 1, by omega, by go_num, HX2, Lib.hid hh.out.tail, Lib.hid hr2, Lib.hid (kk hk.out hk2)⟩
          case measure => simp [intOf]; omega
      · rw [Js.tk_miss hm] at hx2
        have HX2 := Lib.hid (show R = .bad 54 m from hx2)
        have A := Lib.hid (HTM.out c q m hh.out hm wr hrd.out)
        have HAT := Lib.hid hh.out.at_
        clear hx2 hx hc hm
        go_wp2_with (first | (go_at_call 79; refine A.out.mono ?_; rintro e w2 ⟨rfl, hb2⟩))
        refine ⟨rfl, ?_⟩
        rw [HX2.out]
        exact ⟨rfc_eq HAT.out.symm, kk (Kept.of_below hb1.out) (kb hk.out hb2)⟩
    · obtain rfl : j = N := by omega
      have hx2 := hx.out
      rw [List.drop_eq_nil_of_le (by rw [← HN.out]; exact Nat.le_refl _), Js.wd] at hx2
      have HX2 := Lib.hid hx2
      have HAT := Lib.hid hh.out.at_
      have hgr := Lib.hid (hk.out.heap hg1.out (by omega) (by simp; omega))
      have hbne : w.heap.size ≠ b := by omega
      clear hx2 hx
      go_wp2_with (first | (refine wpList_build_json1 rfl _ rfl k rfl ?_; go_frame) | (refine wpList_store_json rfl _ _ rfl w.heap.size k [] (.slice none 0 0) (.slice none 0 0) noRow rfl rfl rfl rfl rfl hgr.out ?_; intro w3 hg3 hk3 hs3; go_frame))
      refine bodyPost_ret (results_json rfl _ _ w.heap.size k [] _ _ rfl hg3.out) rfl ?_
      rw [HX2.out]
      refine ⟨_, rfl, leaf_own _ _ _ k [], ?_, ?_⟩
      · rw [HAT.out]
        exact (hk3.out.block b (by have := hk.out.size; omega) (by simp; omega)).trans hrd.out
      · exact (kk (Kept.of_below hb1.out) hk.out).trans (hk3.out.mono (by have := hk.out.size; omega) (fun x hx hm => by simp at hm; omega))
theorem clone_any (l : List UInt8) (hl : l.length ≤ 281474976710656) (w : World) : Calls Tryd.prog 43 #[.string (bs l)] w fun e w' => e = .returned (.string (bs l)) ∧ Below w.heap.size w w' := by
  have C := Lib.hid (k_stringslite_Clone (bs l) w (by rw [bs_size]; exact hl))
  generalize bs l = s at *
  go_enter Tryd.func43, Tryd.ntmps43
  go_wp2_with (first | (go_at_call 68; refine C.out.mono ?_; rintro e w1 ⟨rfl, hb1⟩))
  go_ret
  exact ⟨rfl, hb1⟩
theorem take_bs (l : List UInt8) (n : Nat) (hn : n ≤ l.length) (v : World) : (Instr.slice 9 (.string (bs l)) none (some (.int .i64 (n : Int))) none).run Tryd.prog v = .ok (.string (bs (l.take n))) v := by
  rw [run_first_string v 9 (bs l) .i64 n Tryd.underlying9 (by rw [bs_size]; exact hn)]
  congr 2
  exact bs_of (by rw [extract_to, bs_list])
set_option maxRecDepth 100000 in
set_option maxHeartbeats 4000000 in
theorem number_any (S l : List UInt8) (hS : S.length ≤ 8000) (b p d : Nat) (w : World) (hr : Rd w b (bs S) p d) (hl : Here S p l) :
    Calls Tryd.prog 64 #[.pointer (some ⟨b, 0, none⟩)] w (Out b S d w (Made w) (Js.num l)) := by
  have hlt := hr.lt
  have hle := hl.le
  have NS := fun v => numberSize_any l (by omega) v
  have hsz := (Js.nsz_le l).1
  have RS := rest_bs S l p hl
  have hdr := hl.drop (Js.nsz l).1 hsz
  unfold Js.num
  generalize Js.nsz l = x at *
  obtain ⟨n, ok⟩ := x
  simp only at hsz hdr
  unfold nszV at NS
  simp only at NS
  have NS := Lib.hid NS
  have HR := Lib.hid hr
  cases ok with
  | false =>
    simp only [Bool.false_eq_true, if_false]
    have HAT := Lib.hid hdr.at_
    have hpn := Lib.hid hdr.le
    clear hr hl hdr
    generalize bs S = s at *
    generalize bs l = t at *
    go_enter Tryd.func64, Tryd.ntmps64
    go_wp2_with (first | (refine wpList_alloc_v rfl 25 rfl _ allocJson ?_; intro w1 hg1 hb1 hs1; go_frame))
    have R1 := HR.out.below hb1.out
    have c0 := R1.c0
    have c1 := R1.c1
    go_quiet (first | (go_at_call 75; with_reducible exact Calls.quiet_of_same (NS.out _)))
    have hov : p + n ≤ 8000 := by omega
    go_wp2_with fail
    exact ⟨rfl, rfc_eq HAT.out.symm, Kept.of_below (below_drewN hb1.out _)⟩
  | true =>
    simp only [if_true]
    have HAT := Lib.hid hdr.at_
    have hpn := hdr.le
    have TB := take_bs l n hsz
    have CL := Lib.hid (fun v => clone_any (l.take n) (by rw [List.length_take]; omega) v)
    clear hr hl hdr
    obtain ⟨s, hs⟩ : ∃ s, s = bs S := ⟨_, rfl⟩
    rw [← hs] at HR RS
    have HS := Lib.hid hs
    clear hs
    generalize bs l = t at *
    obtain ⟨tt, htt⟩ : ∃ s, s = bs (l.take n) := ⟨_, rfl⟩
    rw [← htt] at TB CL
    have HTT := Lib.hid htt
    clear htt
    go_enter Tryd.func64, Tryd.ntmps64
    go_wp2_with (first | (refine wpList_alloc_v rfl 25 rfl _ allocJson ?_; intro w1 hg1 hb1 hs1; go_frame))
    have R1 := HR.out.below hb1.out
    have c0 := R1.c0
    have c1 := R1.c1
    go_quiet (first | (go_at_call 75; with_reducible exact Calls.quiet_of_same (NS.out _)))
    go_wp2_with fail
    obtain ⟨w2, hw2⟩ : ∃ x, x = w1.drewN nq := ⟨_, rfl⟩
    rw [← hw2]
    have R2 : Rd w2 b s p d := by rw [hw2]; exact R1
    have G2 := Lib.hid (show w2.heap[w.heap.size]? = some (.cells noRow.toArray 25 (0, 0)) by rw [hw2]; exact hg1.out)
    have B2 := Lib.hid (show Below w.heap.size w w2 by rw [hw2]; exact below_drewN hb1.out _)
    have hlt2 : w.heap.size < w2.heap.size := lt_of_heap G2.out
    clear hw2 c0 c1 R1
    have SC := Lib.hid (quiet_S (S := Sn w2) Sn.next (fun v hv => CL.out v))
    have L0 := Sn.cell R2.c0 R2.lt
    have L1 := Sn.cell R2.c1 R2.lt
    haveI : Nonempty (Of (Sn w2)) := ⟨⟨_, Sn.start w2⟩⟩
    refine wp_region_S (Sn w2) (by kernel_rfl) (by kernel_rfl) (Sn.start _) ?_
    repeat (go_big_quiet_step (first | (go_at_call 43; with_reducible exact SC.out _)))
    refine wpQuiet_nil ?_
    rintro w3 ⟨u3, e3⟩
    have R3 : Rd w3 b s p d := by rw [e3]; exact R2.below u3.ok
    have G3 := Lib.hid (show w3.heap[w.heap.size]? = some (.cells noRow.toArray 25 (0, 0)) by rw [e3]; exact (u3.ok.block _ hlt2).trans G2.out)
    have B3 := Lib.hid (show Below w.heap.size w w3 by rw [e3]; exact B2.out.trans (u3.ok.mono (Nat.le_of_lt hlt2)))
    clear e3 u3 this L0 L1 SC RS TB
    have c1 := R3.c1
    have f1 := R3.f 1
    have R4 := Lib.hid (R3.set1 (p + n))
    have hbne : w.heap.size ≠ b := by omega
    have G4 := Lib.hid (show (w3.setCell ⟨b, 1, none⟩ (.int .i64 ((p + n : Nat) : Int))).heap[w.heap.size]? = some (.cells noRow.toArray 25 (0, 0)) from (heap_setCell_other _ _ _ _ hbne).trans G3.out)
    go_wp2_with (first | (refine wpList_build_json2 rfl _ _ rfl 4 (l.take n) rfl (by rw [← HTT.out]; rfl) ?_; go_frame) | (refine wpList_store_json rfl _ _ rfl w.heap.size 4 (l.take n) (.slice none 0 0) (.slice none 0 0) noRow rfl rfl rfl rfl rfl G4.out ?_; intro w5 hg5 hk5 hs5; go_frame))
    refine bodyPost_ret (results_json rfl _ _ w.heap.size 4 (l.take n) _ _ rfl hg5.out) rfl ?_
    have hsz4 : ∀ v, (w3.setCell ⟨b, 1, none⟩ v).heap.size = w3.heap.size := fun v => by simp [World.setCell]
    refine ⟨_, rfl, leaf_own _ _ _ 4 (l.take n), ?_, ?_⟩
    · rw [HAT.out, ← HS.out]
      exact (hk5.out.block b (by rw [hsz4]; exact R3.lt) (by simp; omega)).trans R4.out
    · refine ((Kept.of_below B3.out).trans ((kset b 1 _).mono (B3.out.size) (fun _ _ h => h))).trans (hk5.out.mono (by rw [hsz4]; exact B3.out.size) (fun x hx hm => by simp at hm; omega))
theorem below_kept {B B' g : Nat} {a b c : World} (h : Below B a b) (k : Kept B' [g] b c) (hB : B ≤ g) (hB' : B ≤ B') : Below B a c :=
  ((Kept.of_below (ws := [g]) h).trans (k.mono hB' (fun _ _ h => h))).below (by simp; omega)
theorem normal_end {fn : Func} {R : Ending → World → Prop} {a : Act} {w : World} (hr : fn.results = #[]) (hd : a.defers = []) (h : R (.returned (.tuple #[])) w) : bodyPost Tryd.prog fn R .normal a w := ⟨hd, _, results_none hr _ _ _, h⟩
end Go.Proofs.YthfnlnhehececaaDoor

/- json.Find: the call. -/
import Derived.Test.YthfnlnhehececaaDoorNFind
import Derived.Test.YthfnlnhehececaaDoorNSame3
import Derived.Test.YthfnlnhehececaaDoorNParse
import Derived.Test.YthfnlnhehececaaDoorNRt6
namespace Go.Proofs.YthfnlnhehececaaDoor
open Go Go.RowKit

theorem results_mid2 {P : Program} {fn : Func} {p t : Tmp} {ty : TypeId} (h : fn.results = #[.cell p ty, .tmp t]) (tmps : Array Value) (w : World) (g o : Nat) (cs : List Value) (d : TypeDesc)
    (hp : tmps.getD p undef = .pointer (some ⟨g, o, none⟩)) (hc : w.rangeAt g o cs)
    (hu : P.underlying ty = some d) (hd : d.isRow = true) (hi : (P.info? ty).map (·.size) = some cs.length) :
    (results fn tmps).run P w = .ok (.tuple #[.agg cs.toArray, tmps.getD t undef]) w := by
  have hp' : tmps[p]?.getD undef = .pointer (some ⟨g, o, none⟩) := by simpa using hp
  simp [results, h, hp', asAddr, run_loadVar_mid w g o ty cs d hc hu hd hi]
theorem results_json2 {fn : Func} {p q : Tmp} (h : fn.results = #[.cell p 25, .tmp q]) (tmps : Array Value) (w : World) (g : Nat) (cs : List Value) (hl : cs.length = 4) (hp : tmps.getD p undef = .pointer (some ⟨g, 0, none⟩))
    (hg : w.heap[g]? = some (.cells cs.toArray 25 (0, 0))) : (results fn tmps).run Tryd.prog w = .ok (.tuple #[.agg cs.toArray, tmps.getD q undef]) w :=
  results_mid2 h tmps w g 0 cs _ hp (range_of_list hg) Tryd.underlying25 rfl (by rw [hl]; kernel_rfl)
/-- What json.Find comes to. -/
def OutF (w : World) : Option Js.J → Ending → World → Prop
  | some j, e, w' => ∃ z, e = .returned (.tuple #[z, .bool true]) ∧ Made w j z w' ∧ Below w.heap.size w w'
  | none, e, w' => e = .returned (.tuple #[.agg noRow.toArray, .bool false]) ∧ Below w.heap.size w w'
theorem wpList_build_json0 {w : World} {ops : Array Oper} {rest : List Oper} {o : Oper} {a : Act} {Q : Exit → Act → World → Prop} (hgd : o.guard = none) (ho : o.op = .build 25 #[])
    (h : wpList Tryd.prog ops Q rest (a.put o.dst (.agg noRow.toArray)) w) : wpList Tryd.prog ops Q (o :: rest) a w :=
  wpList_build hgd 25 _ ho _ (by simp only [List.map_toArray, List.map_nil]; exact build_json0 w) h
theorem wpList_store_none {w : World} {ops : Array Oper} {rest : List Oper} {op : Oper} {a : Act} {Q : Exit → Act → World → Prop} (hgd : op.guard = none) (x y : Operand) (ho : op.op = .store 25 x y)
    (g : Nat) (hx : a.eval x = .pointer (some ⟨g, 0, none⟩)) (hy : a.eval y = .agg noRow.toArray) (hg : w.heap[g]? = some (.cells noRow.toArray 25 (0, 0)))
    (h : ∀ w', Hid (w'.heap[g]? = some (.cells noRow.toArray 25 (0, 0))) → Hid (Kept w.heap.size [g] w w') → Hid (w'.heap.size = w.heap.size) → wpList Tryd.prog ops Q rest (a.put op.dst undef) w') : wpList Tryd.prog ops Q (op :: rest) a w :=
  wpList_store_whole hgd 25 x y ho g noRow noRow 25 hx hy hg rfl (by kernel_rfl) (by intro v hv; simp only [noRow, List.mem_cons, List.not_mem_nil, or_false] at hv; rcases hv with rfl | rfl | rfl | rfl <;> rfl) h
/-- The value and the result lie. -/
theorem find_laid {w w1 w2 : World} {x y z u : Value} (hg1 : Hid (w1.heap[w.heap.size]? = some (.cells #[x, y, z, u] 25 (0, 0)))) (hb1 : Hid (Below w.heap.size w w1)) (hs1 : Hid (w1.heap.size = w.heap.size + 1)) (_hg2 : Hid (w2.heap[w1.heap.size]? = some (.cells noRow.toArray 25 (0, 0)))) (hb2 : Hid (Below w1.heap.size w1 w2)) (hs2 : Hid (w2.heap.size = w1.heap.size + 1)) :
    (w2.cell? ⟨w.heap.size, 0, none⟩ = some x ∧ w2.cell? ⟨w.heap.size, 1, none⟩ = some y ∧ w2.cell? ⟨w.heap.size, 2, none⟩ = some z ∧ w2.cell? ⟨w.heap.size, 3, none⟩ = some u) ∧ Hid (Below w.heap.size w w2) ∧ Hid (w.heap.size < w2.heap.size ∧ w1.heap.size < w2.heap.size ∧ w.heap.size < w1.heap.size) := by
  have s1 := hs1.out
  have s2 := hs2.out
  exact ⟨cells4 ((hb2.out.block _ (by omega)).trans hg1.out), Lib.hid (hb1.out.trans (hb2.out.mono (by omega))), Lib.hid (by omega)⟩
set_option maxRecDepth 100000 in
set_option maxHeartbeats 4000000 in
theorem find_not (k : Int) (t : List UInt8) (nv kv : Value) (x : List UInt8) (w : World) (hk : ¬ k = 7) : Calls Tryd.prog 13 #[jv k t nv kv, .string (bs x)] w (OutF w none) := by
  have BX := fun w => box_json k t nv kv w
  unfold jv jrow at *
  generalize bs t = s at *
  generalize bs x = sx at *
  go_enter Tryd.func13, Tryd.ntmps13
  go_wp2_with (first | (refine wpList_box_any (w := w) rfl _ rfl _ _ rfl BX ?_; intro w1 hg1 hb1 hs1; go_frame) | (refine wpList_alloc_v (w := w1) rfl 25 rfl _ allocJson ?_; intro w2 hg2 hb2 hs2; obtain ⟨⟨e1, e2, e3, e4⟩, B2, N2⟩ := find_laid hg1 hb1 hs1 hg2 hb2 hs2; go_frame) | (refine wpList_build_json0 rfl rfl ?_; go_frame) | (refine wpList_store_none (w := w2) rfl _ _ rfl w1.heap.size rfl rfl hg2.out ?_; intro w3 hg3 hk3 hs3; go_frame))
  refine bodyPost_ret (results_json2 rfl _ _ w1.heap.size noRow rfl rfl hg3.out) rfl ⟨rfl, ?_⟩
  exact below_kept B2.out hk3.out (by have := N2.out; omega) (by have := N2.out; omega)
set_option maxRecDepth 100000 in
set_option maxHeartbeats 4000000 in
theorem find_wrong (t : List UInt8) (nv kv : Value) (x : List UInt8) (w : World) (hc : ∀ u, Below w.heap.size w u → Calls Tryd.prog 26 #[jv 7 t nv kv] u fun e w' => e = .returned (.bool false) ∧ Below u.heap.size u w') : Calls Tryd.prog 13 #[jv 7 t nv kv, .string (bs x)] w (OutF w none) := by
  have BX := fun w => box_json 7 t nv kv w
  have CR := Lib.hid hc
  have hnot : ∀ (x : Bool) (w : World), (Op.unary .not (.bool x)).run Tryd.prog w = .ok (.bool (!x)) w := fun _ _ => rfl
  unfold jv jrow at *
  generalize bs t = s at *
  generalize bs x = sx at *
  clear hc
  go_enter Tryd.func13, Tryd.ntmps13
  go_wp2_with (first | (refine wpList_box_any (w := w) rfl _ rfl _ _ rfl BX ?_; intro w1 hg1 hb1 hs1; go_frame) | (refine wpList_alloc_v (w := w1) rfl 25 rfl _ allocJson ?_; intro w2 hg2 hb2 hs2; obtain ⟨⟨e1, e2, e3, e4⟩, B2, N2⟩ := find_laid hg1 hb1 hs1 hg2 hb2 hs2; go_frame) | (go_at_call 26; refine (CR.out w2 B2.out).mono ?_; rintro ex w4 ⟨rfl, hb4⟩; have G4 := Lib.hid ((hb4.block _ N2.out.2.1).trans hg2.out); have B4 := Lib.hid (B2.out.trans (hb4.mono B2.out.size)); have n4 := hb4.size; clear hb4; go_frame) | (refine wpList_build_json0 rfl rfl ?_; go_frame) | (refine wpList_store_none (w := w4) rfl _ _ rfl w1.heap.size rfl rfl G4.out ?_; intro w3 hg3 hk3 hs3; go_frame))
  refine bodyPost_ret (results_json2 rfl _ _ w1.heap.size noRow rfl rfl hg3.out) rfl ⟨rfl, ?_⟩
  exact below_kept B4.out hk3.out (by have := N2.out; omega) (by have := N2.out; omega)
set_option maxRecDepth 100000 in
set_option maxHeartbeats 4000000 in
theorem find_miss (t : List UInt8) (nv kv : Value) (x : List UInt8) (w : World) (hc : ∀ u, Below w.heap.size w u → Calls Tryd.prog 26 #[jv 7 t nv kv] u fun e w' => e = .returned (.bool true) ∧ Below u.heap.size u w')
    (hx : ∀ u, Below w.heap.size w u → Calls Tryd.prog 28 #[nv, .string (bs x)] u fun e w' => e = .returned (.int .i64 (-1)) ∧ w' = u) : Calls Tryd.prog 13 #[jv 7 t nv kv, .string (bs x)] w (OutF w none) := by
  have BX := fun w => box_json 7 t nv kv w
  have CR := Lib.hid hc
  have CX := Lib.hid hx
  have hnot : ∀ (x : Bool) (w : World), (Op.unary .not (.bool x)).run Tryd.prog w = .ok (.bool (!x)) w := fun _ _ => rfl
  unfold jv jrow at *
  generalize bs t = s at *
  generalize bs x = sx at *
  clear hc hx
  go_enter Tryd.func13, Tryd.ntmps13
  go_wp2_with (first | (refine wpList_box_any (w := w) rfl _ rfl _ _ rfl BX ?_; intro w1 hg1 hb1 hs1; go_frame) | (refine wpList_alloc_v (w := w1) rfl 25 rfl _ allocJson ?_; intro w2 hg2 hb2 hs2; obtain ⟨⟨e1, e2, e3, e4⟩, B2, N2⟩ := find_laid hg1 hb1 hs1 hg2 hb2 hs2; have E2 := Lib.hid (And.intro e1 (And.intro e2 (And.intro e3 e4))); go_frame) | (go_at_call 26; refine (CR.out w2 B2.out).mono ?_; rintro ex w4 ⟨rfl, hb4⟩; have G4 := Lib.hid ((hb4.block _ N2.out.2.1).trans hg2.out); have B4 := Lib.hid (B2.out.trans (hb4.mono B2.out.size)); have n4 := hb4.size; obtain ⟨f1, f2, f3, f4⟩ := cells_below E2.out hb4 N2.out.1; clear hb4 e1 e2 e3 e4 E2; go_frame) | (go_at_call 28; refine (CX.out w4 B4.out).mono ?_; rintro ex w5 ⟨rfl, rfl⟩; go_frame) | (refine wpList_build_json0 rfl rfl ?_; go_frame) | (refine wpList_store_none (w := w5) rfl _ _ rfl w1.heap.size rfl rfl G4.out ?_; intro w3 hg3 hk3 hs3; go_frame))
  refine bodyPost_ret (results_json2 rfl _ _ w1.heap.size noRow rfl rfl hg3.out) rfl ⟨rfl, ?_⟩
  exact below_kept B4.out hk3.out (by have := N2.out; omega) (by have := N2.out; omega)
set_option maxRecDepth 100000 in
set_option maxHeartbeats 4000000 in
theorem find_hit (t : List UInt8) (nv : Value) (g o N i c : Nat) (x : List UInt8) (w : World) (hiN : i < N) (j : Js.J) (kk : Int) (tt : List UInt8) (nvv kvv : Value) (hg : g < w.heap.size) (hli : Lies w g (o + 4 * i) (jv kk tt nvv kvv))
    (hc : ∀ u, Below w.heap.size w u → Calls Tryd.prog 26 #[jv 7 t nv (.slice (some ⟨g, o, none⟩) N c)] u fun e w' => e = .returned (.bool true) ∧ Below u.heap.size u w')
    (hx : ∀ u, Below w.heap.size w u → Calls Tryd.prog 28 #[nv, .string (bs x)] u fun e w' => e = .returned (.int .i64 (i : Int)) ∧ w' = u)
    (hy : ∀ u, Below w.heap.size w u → Calls Tryd.prog 29 #[jv kk tt nvv kvv] u fun e w' => ∃ z, e = .returned z ∧ Made u j z w' ∧ Below u.heap.size u w') :
    Calls Tryd.prog 13 #[jv 7 t nv (.slice (some ⟨g, o, none⟩) N c), .string (bs x)] w (OutF w (some j)) := by
  have BX := fun w => box_json 7 t nv (.slice (some ⟨g, o, none⟩) N c) w
  have CR := Lib.hid hc
  have CX := Lib.hid hx
  have CY := Lib.hid hy
  have HLI := Lib.hid (lies_row hli)
  rw [Nat.mul_comm 4 i] at HLI
  have hnot : ∀ (x : Bool) (w : World), (Op.unary .not (.bool x)).run Tryd.prog w = .ok (.bool (!x)) w := fun _ _ => rfl
  unfold jv jrow at *
  generalize bs t = s at *
  generalize bs x = sx at *
  generalize bs tt = st at *
  clear hc hx hy hli
  go_enter Tryd.func13, Tryd.ntmps13
  go_wp2_with (first | (refine wpList_box_any (w := w) rfl _ rfl _ _ rfl BX ?_; intro w1 hg1 hb1 hs1; go_frame) | (refine wpList_alloc_v (w := w1) rfl 25 rfl _ allocJson ?_; intro w2 hg2 hb2 hs2; obtain ⟨⟨e1, e2, e3, e4⟩, B2, N2⟩ := find_laid hg1 hb1 hs1 hg2 hb2 hs2; have E2 := Lib.hid (And.intro e1 (And.intro e2 (And.intro e3 e4))); go_frame) | (go_at_call 26; refine (CR.out w2 B2.out).mono ?_; rintro ex w4 ⟨rfl, hb4⟩; have G4 := Lib.hid ((hb4.block _ N2.out.2.1).trans hg2.out); have B4 := Lib.hid (B2.out.trans (hb4.mono B2.out.size)); have n4 := hb4.size; obtain ⟨f1, f2, f3, f4⟩ := cells_below E2.out hb4 N2.out.1; clear hb4 e1 e2 e3 e4 E2; go_frame) | (go_at_call 28; refine (CX.out w4 B4.out).mono ?_; rintro ex w5 ⟨rfl, rfl⟩; have HRW := Lib.hid (range_block HLI.out (B4.out.block g hg)); go_frame) | (refine wpList_load_mid rfl 25 _ rfl g (o + i * 4) rfl [.int .i64 kk, .string st, nvv, kvv] _ HRW.out Tryd.underlying25 rfl (by kernel_rfl) ?_; go_frame) | (go_at_call 29; refine (CY.out w5 B4.out).mono ?_; rintro ex w6 ⟨z, rfl, hm6, hb6⟩; obtain ⟨k6, t6, ns6, ks6⟩ := j; obtain ⟨nv6, kv6, rfl, h61, h62⟩ := Own.jv_ hm6; have M6 := Lib.hid hm6; have B6 := Lib.hid hb6; have G6 := Lib.hid ((hb6.block _ (lt_of_heap G4.out)).trans G4.out); clear hm6 hb6; go_frame) | (refine wpList_store_json (w := w6) rfl _ _ rfl w1.heap.size k6 t6 nv6 kv6 noRow rfl rfl h61 h62 rfl G6.out ?_; intro w3 hg3 hk3 hs3; go_frame))
  have n2 := N2.out
  have n6 := B6.out.size
  refine bodyPost_ret (results_json2 rfl _ _ w1.heap.size (jrow k6 t6 nv6 kv6) rfl rfl hg3.out) rfl ⟨_, rfl, ?_, below_kept (B4.out.trans (B6.out.mono B4.out.size)) hk3.out (by omega) (by omega)⟩
  unfold Made
  rw [hs3.out]
  have f := M6.out
  unfold Made at f
  exact (f.frame fun g g1 g2 => hk3.out.block g g2 (by simp; omega)).mono (by omega) (Nat.le_refl _)
theorem Js.Slim.fit {j : Js.J} (h : Js.Slim j) : Js.Fit j := by
  induction h with
  | mk k t ns ks ht hn hns hk _ ih => exact .mk k t ns ks ht (by omega) hns (by omega) ih
theorem find_any (j : Js.J) (v : Value) (x : List UInt8) (B : Nat) (w : World) (hf : Js.Fit j) (hat : At w (· < B) j v) (hB : B ≤ w.heap.size) (hT : Tb w) : Calls Tryd.prog 13 #[v, .string (bs x)] w (OutF w (Js.find j x)) := by
  have CR := fun (u : World) (hu : Below w.heap.size w u) => isRight_any j v B u hf (hat.low hu hB) (Nat.le_trans hB hu.size) (hT.below hu)
  cases hr : Js.right j with
  | false =>
    rw [hr] at CR
    obtain ⟨k, t, ns, ks⟩ := j
    obtain ⟨nv, kv, vs, rfl, _, _, hn, hk, hl, hs⟩ := hat.jv_
    rw [show Js.find (.mk k t ns ks) x = none by unfold Js.find; dsimp only; rw [if_neg (by rw [hr]; simp)]]
    by_cases h7 : k = 7
    · subst h7
      exact find_wrong t nv kv x w CR
    · exact find_not k t nv kv x w h7
  | true =>
    have hsl := Js.right_slim hf hr
    rw [hr] at CR
    obtain ⟨k, t, ns, ks⟩ := j
    obtain ⟨nv, kv, vs, rfl, _, _, hn, hk, hl, hs⟩ := hat.jv_
    by_cases h7 : k = 7
    · subst h7
      rw [show Js.find (.mk 7 t ns ks) x = (Js.idxN ns x).bind fun i => ks[i]? by unfold Js.find; dsimp only; rw [if_pos ⟨rfl, hr⟩]]
      cases hsl with
      | mk _ _ _ _ s1 s2 s3 s4 s5 =>
      have CX := fun (u : World) (hu : Below w.heap.size w u) => namesIdx_any (· < B) ns nv x u (hn.frame (fun _ h => h) hu.size fun g hg _ => hu.block g (by omega)) (by omega)
      have hnk : ns.length = ks.length := by
        obtain ⟨h1, _, _⟩ := Js.rstep_parts (f := some (Js.rt 19)) (n := 0) hr
        rcases h1 with ⟨rfl, rfl⟩ | ⟨rfl, hk2⟩ | ⟨hl2, _⟩
        · rfl
        · have h7 := hr
          unfold Js.right at h7
          rw [show Js.rt 20 = Js.rstep (some (Js.rt 19)) from rfl] at h7
          unfold Js.rstep at h7
          dsimp only at h7
          rw [if_neg (by omega), if_neg (by decide), if_neg (by decide), if_neg (by decide), if_neg (by decide), if_pos rfl] at h7
          by_cases hh : (t.isEmpty && Js.nm [] ks.length) = true
          · simp only [Bool.and_eq_true, Js.nm, decide_eq_true_eq] at hh
            exact hh.2.1
          · rw [if_neg hh] at h7; cases h7
        · exact hl2
      cases hi : Js.idxN ns x with
      | none =>
        rw [hi] at CX
        exact find_miss t nv kv x w CR CX
      | some i =>
        rw [hi] at CX
        obtain ⟨h1, _⟩ := Js.idxN_some hi
        have hil := (List.getElem?_eq_some_iff.1 h1).1
        have hik : i < ks.length := by omega
        have hiv : i < vs.length := by omega
        have hj := List.getElem?_eq_getElem hik
        have hv := List.getElem?_eq_getElem hiv
        show Calls _ _ _ _ (OutF w (ks[i]?))
        rw [hj]
        generalize ks[i] = j at hj
        generalize vs[i] = v at hv
        obtain ⟨a2, c2, rfl, hcell2⟩ := hk.sl
        obtain ⟨g, o, rfl, hgB, hg, hli⟩ := hcell2 i v hv
        have hat2 := hs i j v hj hv
        have hslj := s5 j (List.mem_of_getElem? hj)
        have CY := fun (u : World) (hu : Below w.heap.size w u) => copy_at j v B u hslj (hat2.low hu hB) (Nat.le_trans hB hu.size)
        obtain ⟨kk, tt, nns, kks⟩ := j
        obtain ⟨nvv, kvv, _, rfl, _⟩ := hat2.jv_
        exact find_hit t nv g o vs.length i c2 x w (by omega) _ kk tt nvv kvv hg hli CR CX CY
    · rw [show Js.find (.mk k t ns ks) x = none by unfold Js.find; dsimp only; rw [if_neg (by simp [h7])]]
      exact find_not k t nv kv x w h7
end Go.Proofs.YthfnlnhehececaaDoor

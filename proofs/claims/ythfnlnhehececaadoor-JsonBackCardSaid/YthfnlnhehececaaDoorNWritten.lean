/- json.Write. -/
import Derived.Test.YthfnlnhehececaaDoorNVw
import Derived.Test.YthfnlnhehececaaDoorNHas
import Derived.Test.YthfnlnhehececaaDoorNFind
import Derived.Test.YthfnlnhehececaaDoorNRt6
import Derived.Test.YthfnlnhehececaaDoorNParse
namespace Go.Proofs.YthfnlnhehececaaDoor
open Go Go.RowKit

namespace Js
theorem rstep7 {f : Option (J → Nat → Bool × Nat)} {t : List UInt8} {ns : List (List UInt8)} {ks : List J} {n : Nat} (h : (rstep f (.mk 7 t ns ks) n).1 = true) : ns.length = ks.length := by
  unfold rstep at h
  dsimp only at h
  by_cases h0 : 8000 < n + 1
  · rw [if_pos h0] at h; cases h
  rw [if_neg h0, if_neg (by decide), if_neg (by decide), if_neg (by decide), if_neg (by decide), if_pos rfl] at h
  by_cases hh : (t.isEmpty && nm ns ks.length) = true
  · simp only [Bool.and_eq_true, nm, decide_eq_true_eq] at hh
    exact hh.2.1
  · rw [if_neg hh] at h; cases h
theorem rt_neat : ∀ (d : Nat) (j : J) (n : Nat), Fit j → (rt d j n).1 = true → Neat j := by
  intro d
  induction d with
  | zero =>
    intro j n hf h
    obtain ⟨k, t, ns, ks⟩ := j
    cases hf with
    | mk _ _ _ _ a1 a2 a3 a4 a5 =>
    refine .mk k t ns ks a1 a2 a3 a4 (fun h7 => by subst h7; exact rstep7 h) ?_
    obtain ⟨h1, h2, _⟩ := rstep_parts (f := none) h
    rcases h1 with ⟨rfl, rfl⟩ | ⟨_, h⟩ | ⟨_, h⟩
    · exact fun j hj => by cases hj
    · cases h
    · cases h
  | succ d ih =>
    intro j n hf h
    obtain ⟨k, t, ns, ks⟩ := j
    cases hf with
    | mk _ _ _ _ a1 a2 a3 a4 a5 =>
    refine .mk k t ns ks a1 a2 a3 a4 (fun h7 => by subst h7; exact rstep7 h) ?_
    obtain ⟨h1, h2, _⟩ := rstep_parts (f := some (rt d)) h
    have hks : (rkids (some (rt d)) ks (n + 1)).1 = true → ∀ j ∈ ks, Neat j := fun hk j hj => by
      obtain ⟨m, hm⟩ := rts_all (rt d) ks (n + 1) hk j hj
      exact ih j m (a5 j hj) hm
    rcases h1 with ⟨rfl, rfl⟩ | ⟨_, hk⟩ | ⟨_, hk⟩
    · exact fun j hj => by cases hj
    · exact hks hk
    · exact hks hk
/-- A value's text, or why it has none. -/
inductive Tr where
  | ok (X : List UInt8)
  | bad (c : Nat)
def write (j : J) : Tr := if right j = true ∧ nums j = true then if (wr j).length ≤ 8000 then .ok (wr j) else .bad 56 else .bad 54
end Js
def OutT (w : World) : Js.Tr → Ending → World → Prop
  | .ok X, e, w' => e = .returned (.string (bs X)) ∧ Below w.heap.size w w'
  | .bad c, e, w' => e = .panicked (rfc c 0) ∧ Below w.heap.size w w'
set_option maxRecDepth 100000 in
set_option maxHeartbeats 4000000 in
theorem written_wrong (k : Int) (t : List UInt8) (nv kv : Value) (w : World) (hc : ∀ u, Below w.heap.size w u → Calls Tryd.prog 26 #[jv k t nv kv] u fun e w' => e = .returned (.bool false) ∧ Below u.heap.size u w') :
    Calls Tryd.prog 23 #[jv k t nv kv] w (OutT w (.bad 54)) := by
  have CR := Lib.hid hc
  have BXL := fun w => box_json k t nv kv w
  have hnot : ∀ (x : Bool) (w : World), (Op.unary .not (.bool x)).run Tryd.prog w = .ok (.bool (!x)) w := fun _ _ => rfl
  unfold jv jrow at *
  generalize bs t = s at *
  clear hc
  go_enter Tryd.func23, Tryd.ntmps23
  go_wp2_with (first | (refine wpList_box_any (w := w) rfl _ rfl _ _ rfl BXL ?_; intro w1 hg1 hb1 hs1; obtain ⟨d0, d1, d2, d3⟩ := box_cells hg1; go_frame) | (go_at_call 26; refine (CR.out w1 hb1.out).mono ?_; rintro ex w2 ⟨rfl, hb2⟩; go_frame))
  exact ⟨rfl, rfl, hb1.out.trans (hb2.mono hb1.out.size)⟩
set_option maxRecDepth 100000 in
set_option maxHeartbeats 4000000 in
theorem written_nums (k : Int) (t : List UInt8) (nv kv : Value) (w : World) (hc : ∀ u, Below w.heap.size w u → Calls Tryd.prog 26 #[jv k t nv kv] u fun e w' => e = .returned (.bool true) ∧ Below u.heap.size u w')
    (hn : ∀ u, Below w.heap.size w u → Calls Tryd.prog 36 #[jv k t nv kv] u fun e w' => e = .returned (.bool false) ∧ Below u.heap.size u w') :
    Calls Tryd.prog 23 #[jv k t nv kv] w (OutT w (.bad 54)) := by
  have CR := Lib.hid hc
  have CN := Lib.hid hn
  have BXL := fun w => box_json k t nv kv w
  have hnot : ∀ (x : Bool) (w : World), (Op.unary .not (.bool x)).run Tryd.prog w = .ok (.bool (!x)) w := fun _ _ => rfl
  unfold jv jrow at *
  generalize bs t = s at *
  clear hc hn
  go_enter Tryd.func23, Tryd.ntmps23
  go_wp2_with (first | (refine wpList_box_any (w := w) rfl _ rfl _ _ rfl BXL ?_; intro w1 hg1 hb1 hs1; obtain ⟨d0, d1, d2, d3⟩ := box_cells hg1; go_frame) | (go_at_call 26; refine (CR.out w1 hb1.out).mono ?_; rintro ex w2 ⟨rfl, hb2⟩; have hg2 := Lib.hid ((hb2.block _ (lt_of_heap hg1.out)).trans hg1.out); obtain ⟨i0, i1, i2, i3⟩ := box_cells hg2; have B2 := Lib.hid (hb1.out.trans (hb2.mono hb1.out.size)); clear hb2; go_frame) | (go_at_call 36; refine (CN.out w2 B2.out).mono ?_; rintro ex w3 ⟨rfl, hb3⟩; go_frame))
  exact ⟨rfl, rfl, B2.out.trans (hb3.mono B2.out.size)⟩
theorem allocWriter (w : World) : (Instr.alloc 71 true (.tuple #[])).run Tryd.prog w = .ok (.pointer (some ⟨w.heap.size, 0, none⟩)) (w.alloc (.cells [Value.slice none 0 0].toArray 71)) := by kernel_rfl
/-- A writer that has written nothing. -/
theorem wr_new {w1 w2 : World} (hg : w2.heap[w1.heap.size]? = some (.cells [Value.slice none 0 0].toArray 71 (0, 0))) (hs : w2.heap.size = w1.heap.size + 1) : Wr w2 (w1.heap.size + 1) w1.heap.size [] :=
  ⟨_, hg, ⟨by simp, Or.inl ⟨rfl, rfl⟩⟩, by omega, by omega⟩
theorem fr_below {w w2 w3 : World} {b : Nat} (h : Below w.heap.size w w2) (k : Fr (b + 1) b w2 w3) (hb : w.heap.size ≤ b) : Below w.heap.size w w3 := below_kept h k.kept hb (by omega)
set_option maxRecDepth 100000 in
set_option maxHeartbeats 4000000 in
theorem written_ok (k : Int) (t : List UInt8) (nv kv : Value) (X : List UInt8) (B : Nat) (w : World) (hB : B ≤ w.heap.size) (hc : ∀ u, Below w.heap.size w u → Calls Tryd.prog 26 #[jv k t nv kv] u fun e w' => e = .returned (.bool true) ∧ Below u.heap.size u w')
    (hn : ∀ u, Below w.heap.size w u → Calls Tryd.prog 36 #[jv k t nv kv] u fun e w' => e = .returned (.bool true) ∧ Below u.heap.size u w')
    (hv : ∀ lo wb u, Below w.heap.size w u → B ≤ wb → Wr u lo wb [] → Calls Tryd.prog 37 #[.pointer (some ⟨wb, 0, none⟩), jv k t nv kv] u (OutW lo wb [] X u)) :
    Calls Tryd.prog 23 #[jv k t nv kv] w (OutT w (if X.length ≤ 8000 then .ok X else .bad 56)) := by
  obtain ⟨R, hR⟩ : ∃ R, R = (if X.length ≤ 8000 then Js.Tr.ok X else .bad 56) := ⟨_, rfl⟩
  rw [← hR]
  have HRR := Lib.hid hR
  clear hR
  have CR := Lib.hid hc
  have CN := Lib.hid hn
  have CV := Lib.hid hv
  have BXL := fun w => box_json k t nv kv w
  have hnot : ∀ (x : Bool) (w : World), (Op.unary .not (.bool x)).run Tryd.prog w = .ok (.bool (!x)) w := fun _ _ => rfl
  unfold jv jrow at *
  generalize bs t = s at *
  clear hc hn hv
  have HBB := Lib.hid hB
  go_enter Tryd.func23, Tryd.ntmps23
  go_wp2_with (first | (refine wpList_box_any (w := w) rfl _ rfl _ _ rfl BXL ?_; intro w1 hg1 hb1 hs1; obtain ⟨d0, d1, d2, d3⟩ := box_cells hg1; go_frame) | (go_at_call 26; refine (CR.out w1 hb1.out).mono ?_; rintro ex w2 ⟨rfl, hb2⟩; have hg2 := Lib.hid ((hb2.block _ (lt_of_heap hg1.out)).trans hg1.out); obtain ⟨i0, i1, i2, i3⟩ := box_cells hg2; have B2 := Lib.hid (hb1.out.trans (hb2.mono hb1.out.size)); clear hb2; go_frame) | (go_at_call 36; refine (CN.out w2 B2.out).mono ?_; rintro ex w3 ⟨rfl, hb3⟩; have hg3 := Lib.hid ((hb3.block _ (lt_of_heap hg2.out)).trans hg2.out); have B3 := Lib.hid (B2.out.trans (hb3.mono B2.out.size)); clear hb3; go_frame) | (refine wpList_alloc_v (w := w3) rfl 71 rfl _ allocWriter ?_; intro w4 hg4 hb4 hs4; have hg5 := Lib.hid ((hb4.out.block _ (lt_of_heap hg3.out)).trans hg3.out); obtain ⟨k0, k1, k2, k3⟩ := box_cells hg5; have B4 := Lib.hid (B3.out.trans (hb4.out.mono B3.out.size)); have hW := Lib.hid (wr_new hg4.out hs4.out); go_frame) | (go_at_call 37; refine (CV.out (w3.heap.size + 1) w3.heap.size w4 B4.out (Nat.le_trans HBB.out B3.out.size) hW.out).mono ?_; intro e1 w5 ho; have hF := Lib.hid (fr_below B4.out ho.fr B3.out.size); rcases ho.split with ⟨hf, rfl, hw⟩ | ⟨hf, rfl⟩; obtain ⟨sv, hv1, hv2, _, _⟩ := hw; have hv3 := Lib.hid hv2; have c5 : w5.cell? ⟨w3.heap.size, 0, none⟩ = some sv := (by { rw [cell_of_list hv1]; rfl }); clear ho hv2; go_frame; skip) | (refine wpList_own_string rfl 69 9 _ rfl (w3.heap.size + 1) 5 sv _ rfl ([] ++ X) rfl Tryd.underlying69 Tryd.underlying5 Tryd.underlying9 hv3.out ?_; go_frame))
  · go_ret
    simp only [List.length_nil, Nat.zero_add] at hf
    rw [HRR.out, if_pos hf]
    exact ⟨by rw [← bs_eq]; rfl, hF.out⟩
  · simp only [List.length_nil, Nat.zero_add] at hf
    rw [HRR.out, if_neg hf]
    exact ⟨rfl, rfl, hF.out⟩
theorem Js.write_ok {j : Js.J} (h1 : Js.right j = true) (h2 : Js.nums j = true) : Js.write j = if (Js.wr j).length ≤ 8000 then .ok (Js.wr j) else .bad 56 := by
  unfold Js.write; rw [if_pos ⟨h1, h2⟩]
theorem written_any (j : Js.J) (v : Value) (B : Nat) (w : World) (hf : Js.Fit j) (hat : At w (· < B) j v) (hB : B ≤ w.heap.size) (hT : Tb w) : Calls Tryd.prog 23 #[v] w (OutT w (Js.write j)) := by
  have C1 : ∀ (u : World) (_ : Below w.heap.size w u), Calls Tryd.prog 26 #[v] u fun e w' => e = .returned (.bool (Js.right j)) ∧ Below u.heap.size u w' := fun u hu => isRight_any j v B u hf (hat.low hu hB) (Nat.le_trans hB hu.size) (hT.below hu)
  have C2 : ∀ (u : World) (_ : Below w.heap.size w u), Calls Tryd.prog 36 #[v] u fun e w' => e = .returned (.bool (Js.nums j)) ∧ Below u.heap.size u w' := fun u hu => has_at j v B u hf (hat.low hu hB) (Nat.le_trans hB hu.size)
  have C3 : Js.right j = true → ∀ lo wb u, Below w.heap.size w u → B ≤ wb → Wr u lo wb [] → Calls Tryd.prog 37 #[.pointer (some ⟨wb, 0, none⟩), v] u (OutW lo wb [] (Js.wr j) u) := fun hr lo wb u hu hb hw =>
    wvalue_at j v B lo wb [] u (Js.rt_neat 20 j 0 hf hr) (hat.low hu hB) hb (Nat.le_trans hB hu.size) hw (by simp)
  obtain ⟨k, t, ns, ks⟩ := j
  obtain ⟨nv, kv, vs, rfl, _⟩ := hat.jv_
  cases h1 : Js.right (.mk k t ns ks) with
  | false =>
    rw [h1] at C1
    have : Js.write (.mk k t ns ks) = .bad 54 := by unfold Js.write; rw [if_neg (by rw [h1]; simp)]
    rw [this]
    exact written_wrong k t nv kv w C1
  | true =>
    rw [h1] at C1
    cases h2 : Js.nums (.mk k t ns ks) with
    | false =>
      rw [h2] at C2
      have : Js.write (.mk k t ns ks) = .bad 54 := by unfold Js.write; rw [if_neg (by rw [h2]; simp)]
      rw [this]
      exact written_nums k t nv kv w C1 C2
    | true =>
      rw [h2] at C2
      rw [Js.write_ok h1 h2]
      exact written_ok k t nv kv _ B w hB C1 C2 (C3 h1)
/-- What json.Write comes to. -/
def OutR (w : World) : Js.Tr → Ending → World → Prop
  | .ok X, e, w' => e = .returned (.tuple #[.string (bs X), .int .i64 0]) ∧ Below w.heap.size w w'
  | .bad c, e, w' => e = .returned (.tuple #[.string (bs []), .int .i64 c]) ∧ Below w.heap.size w w'
theorem wcatch_idle (p q : Value) (w : World) : CallsD Tryd.prog 21 #[p, q] .returning w fun e u' w' => e = .returned (.tuple #[]) ∧ u' = .returning ∧ w' = w := by
  refine callsD_of_wpS Tryd.func21 rfl fun c₀ cs hu => ?_
  apply wpS_seq
  apply wpS_region
  simp [wpOpsS, go_sem, recoverD, hu, Tryd.ntmps21, Exit.thenS]
  change Code.wpS Tryd.prog _ _ { tmps := #[p, q, .nilIface, .nilIface, undef, undef, undef, undef, undef], defers := [] } _ _
  refine wpS_of_wp ?_
  have hq := neq_nil
  go_wp2
  refine ⟨rfl, .returning, ?_, _, results_none rfl _ _ _, rfl, rfl, rfl⟩
  cases c₀
  simp_all
end Go.Proofs.YthfnlnhehececaaDoor

/- The program asks whether a value's numbers are numbers. -/
import Derived.Test.YthfnlnhehececaaDoorNSame2
import Derived.Test.YthfnlnhehececaaDoorNRt3
import Derived.Test.YthfnlnhehececaaDoorNNum
namespace Go.Proofs.YthfnlnhehececaaDoor
open Go Go.RowKit

namespace Js
def isNum (t : List UInt8) : Bool := (nsz t).2 && decide ((nsz t).1 = t.length)
mutual
def nums : J → Bool
  | .mk k t _ ks => if k = 4 then isNum t else numsL ks
def numsL : List J → Bool
  | [] => true
  | j :: r => nums j && numsL r
end
theorem nums_mk (k : Int) (t : List UInt8) (ns : List (List UInt8)) (ks : List J) : nums (.mk k t ns ks) = if k = 4 then isNum t else ks.all nums := by
  have hL : ∀ l, numsL l = l.all nums := fun l => by
    induction l with
    | nil => rw [numsL]; rfl
    | cons j r ih => rw [numsL, ih, List.all_cons]
  rw [nums, hL]
end Js
set_option maxHeartbeats 1000000 in
theorem isNumber_any (t : List UInt8) (ht : t.length ≤ 140737488355328) (w : World) : Calls Tryd.prog 52 #[.string (bs t)] w fun e w' => e = .returned (.bool (Js.isNum t)) ∧ Below w.heap.size w w' := by
  have NS := fun v => numberSize_any t (by omega) v
  have hss : (bs t).size = t.length := bs_size t
  unfold Js.isNum
  have hsz := (Js.nsz_le t).1
  generalize Js.nsz t = x at *
  obtain ⟨n, ok⟩ := x
  unfold nszV at NS
  simp only at NS hsz ⊢
  have NS := Lib.hid NS
  generalize bs t = s at *
  cases ok with
  | true =>
    have hb : (((n : Int)) == (t.length : Int)) = decide (n = t.length) := by rw [Bool.eq_iff_iff]; simp [Int.ofNat_inj]
    go_enter Tryd.func52, Tryd.ntmps52
    go_wp2_with (first | (go_at_call 75; refine (NS.out _).mono ?_; rintro e1 w2 ⟨rfl, hw⟩; go_frame))
    go_ret
    exact ⟨rfl, Below.refl _ _⟩
  | false =>
    go_enter Tryd.func52, Tryd.ntmps52
    go_wp2_with (first | (go_at_call 75; refine (NS.out _).mono ?_; rintro e1 w2 ⟨rfl, hw⟩; go_frame))
    go_ret
    exact ⟨rfl, Below.refl _ _⟩
/-- What is asked of the question for one value's numbers. -/
def HasC (j : Js.J) : Prop := ∀ (v : Value) (B : Nat) (w : World), Js.Fit j → At w (· < B) j v → B ≤ w.heap.size →
  Calls Tryd.prog 36 #[v] w fun e w' => e = .returned (.bool (Js.nums j)) ∧ Below w.heap.size w w'
set_option maxRecDepth 100000 in
theorem hasNumbers1_any (j : Js.J) (hC : HasC j) (v : Value) (B : Nat) (w : World) (hf : Js.Fit j) (hat : At w (· < B) j v) (hB : B ≤ w.heap.size) :
    Calls Tryd.prog 54 #[v] w fun e w' => e = .returned (.bool (!Js.nums j)) ∧ Below w.heap.size w w' := by
  have CH := Lib.hid (fun (u : World) (hu : Below w.heap.size w u) => hC v B u hf (hat.low hu hB) (Nat.le_trans hB hu.size))
  generalize Js.nums j = r at *
  obtain ⟨k, t, ns, ks⟩ := j
  obtain ⟨nv, kv, vs, rfl, _⟩ := hat.jv_
  have BX := fun w => box_json k t nv kv w
  have hnot : ∀ (x : Bool) (w : World), (Op.unary .not (.bool x)).run Tryd.prog w = .ok (.bool (!x)) w := fun _ _ => rfl
  clear hC hf hat
  go_enter Tryd.func54, Tryd.ntmps54
  go_wp2_with (first | (refine wpList_box_any (w := w) rfl _ rfl _ _ rfl BX ?_; intro w1 hg1 hb1 hs1; go_frame) | (refine wpList_load_mid rfl 25 _ rfl w.heap.size 0 rfl (jrow k t nv kv) _ (range_of_list hg1.out) Tryd.underlying25 rfl (by kernel_rfl) ?_; go_frame) | (go_at_call 36; refine (CH.out w1 hb1.out).mono ?_; rintro ex w2 ⟨rfl, hb2⟩; go_frame))
  go_ret
  exact ⟨rfl, hb1.out.trans (hb2.mono hb1.out.size)⟩
theorem all_take' {ks : List Js.J} {j : Nat} {x : Js.J} (h : ks[j]? = some x) : (ks.take (j + 1)).all Js.nums = ((ks.take j).all Js.nums && Js.nums x) := by
  rw [List.take_add_one, h, List.all_append]
  simp
set_option maxRecDepth 100000 in
set_option maxHeartbeats 4000000 in
theorem idxKids_any (ks : List Js.J) (kv : Value) (vs : List Value) (B : Nat) (w : World) (hC : ∀ j ∈ ks, HasC j) (hf : ∀ j ∈ ks, Js.Fit j) (hl8 : ks.length ≤ 140737488355328) (hk : KsAt w (· < B) kv vs) (hl : vs.length = ks.length)
    (hs : ∀ (i : Nat) (j : Js.J) (v : Value), ks[i]? = some j → vs[i]? = some v → At w (· < B) j v) (hB : B ≤ w.heap.size) :
    Calls Tryd.prog 76 #[kv, .func (.func 54) #[] #[]] w fun e w' => (∃ r : Int, e = .returned (.int .i64 r) ∧ decide (r < 0) = ks.all Js.nums) ∧ Below w.heap.size w w' := by
  obtain ⟨N, hN⟩ : ∃ N, N = ks.length := ⟨_, rfl⟩
  obtain ⟨a, c, rfl, hcell⟩ := hk.sl
  rw [hl, ← hN]
  rw [← hN] at hl8
  have HN := Lib.hid hN
  have HC := Lib.hid hcell
  have HS := Lib.hid hs
  have HF := Lib.hid hf
  have HL := Lib.hid hl
  have HH := Lib.hid hC
  clear hk hcell hs hf hl hC hN
  go_enter Tryd.func76, Tryd.ntmps76
  go_wp2_with fail
  go_loopw [8] (fun iv wr => ∃ i : Nat, i ≤ N ∧ iv = .int .i64 i ∧ Hid ((ks.take i).all Js.nums = true) ∧ Hid (Below w.heap.size w wr)) (fun iv _ => N - (intOf iv).toNat)
  case atStart => exact ⟨0, by omega, rfl, Lib.hid rfl, Lib.hid (Below.refl _ _)⟩
  case round =>
    obtain ⟨i, hi, rfl, ha, hb⟩ := hrel
    by_cases hiN : i < N
    · have hik : i < ks.length := by rw [← HN.out]; exact hiN
      have hiv : i < vs.length := by rw [HL.out]; exact hik
      have hj := List.getElem?_eq_getElem hik
      have hv := List.getElem?_eq_getElem hiv
      have hmem := List.mem_of_getElem? hj
      generalize ks[i] = j at hj hmem
      generalize vs[i] = v at hv
      obtain ⟨g, o, rfl, hgB, hg, hli⟩ := HC.out i v hv
      have hat := HS.out i j v hj hv
      have CA := Lib.hid (hasNumbers1_any j (HH.out j hmem) v B wr (HF.out j hmem) (hat.low hb.out hB) (Nat.le_trans hB hb.out.size))
      have htk := Lib.hid (all_take' hj)
      have hmm := Lib.hid hmem
      have hju := Lib.hid (show Js.nums j = false → ks.all Js.nums = false from fun hu => by
        rw [← Bool.not_eq_true, List.all_eq_true]
        intro h
        rw [h j hmem] at hu
        cases hu)
      generalize Js.nums j = r at *
      obtain ⟨k, t, ns, ks'⟩ := j
      obtain ⟨nv, kv, _, rfl, h1, h2, _⟩ := hat.jv_
      have hrow := Lib.hid (lies_row (hli.frame (hb.out.block g hg)))
      rw [Nat.mul_comm 4 i] at hrow
      clear hli hat hj hv hmem hmm HC HS HF HH
      cases r with
      | true =>
        go_wp2_with (first | (refine wpList_load_mid rfl 25 _ rfl g (o + i * 4) rfl (jrow k t nv kv) _ hrow.out Tryd.underlying25 rfl (by kernel_rfl) ?_; go_frame) | (go_at_call 54; refine CA.out.mono ?_; rintro e1 w2 ⟨rfl, hb2⟩; go_frame))
        go_roundw
        case rel => exact ⟨i + 1, by omega, by go_num, Lib.hid (by rw [htk.out, ha.out]; rfl), Lib.hid (hb.out.trans (hb2.mono hb.out.size))⟩
        case measure => simp [intOf]; omega
      | false =>
        go_wp2_with (first | (refine wpList_load_mid rfl 25 _ rfl g (o + i * 4) rfl (jrow k t nv kv) _ hrow.out Tryd.underlying25 rfl (by kernel_rfl) ?_; go_frame) | (go_at_call 54; refine CA.out.mono ?_; rintro e1 w2 ⟨rfl, hb2⟩; go_frame))
        go_ret
        exact ⟨⟨_, rfl, by rw [hju.out (by simp), decide_eq_false (by omega)]⟩, hb.out.trans (hb2.mono hb.out.size)⟩
    · obtain rfl : i = N := by omega
      have hall : Hid (ks.all Js.nums = true) := Lib.hid (by have := ha.out; rwa [List.take_of_length_le (by rw [← HN.out]; exact Nat.le_refl _)] at this)
      clear HC HS HF HH
      go_wp2_with fail
      go_ret
      exact ⟨⟨_, rfl, by rw [hall.out]; rfl⟩, hb.out⟩
theorem hasKids_any (kv : Value) (r : Bool) (w : World) (hc : Calls Tryd.prog 76 #[kv, .func (.func 54) #[] #[]] w fun e w' => (∃ i : Int, e = .returned (.int .i64 i) ∧ decide (i < 0) = r) ∧ Below w.heap.size w w') :
    Calls Tryd.prog 53 #[kv, .func (.func 54) #[] #[]] w fun e w' => e = .returned (.bool (!r)) ∧ Below w.heap.size w w' := by
  have C := Lib.hid hc
  clear hc
  go_enter Tryd.func53, Tryd.ntmps53
  go_wp2_with (first | (go_at_call 76; refine C.out.mono ?_; rintro e1 w2 ⟨⟨i, rfl, hi⟩, hb2⟩; go_frame))
  go_ret
  refine ⟨?_, hb2⟩
  rw [← hi]
  congr 2
  by_cases h : i < 0
  · rw [decide_eq_true h, decide_eq_false (by omega)]; rfl
  · rw [decide_eq_false h, decide_eq_true (by omega)]; rfl
set_option maxRecDepth 100000 in
set_option maxHeartbeats 2000000 in
theorem has_number (t : List UInt8) (nv kv : Value) (r : Bool) (w : World) (hc : ∀ u, Calls Tryd.prog 52 #[.string (bs t)] u fun e w' => e = .returned (.bool r) ∧ Below u.heap.size u w') :
    Calls Tryd.prog 36 #[jv 4 t nv kv] w fun e w' => e = .returned (.bool r) ∧ Below w.heap.size w w' := by
  have C := Lib.hid hc
  have BX := fun w => box_json 4 t nv kv w
  unfold jv jrow at *
  generalize bs t = s at *
  clear hc
  go_enter Tryd.func36, Tryd.ntmps36
  go_wp2_with (first | (refine wpList_box_any (w := w) rfl _ rfl _ _ rfl BX ?_; intro w1 hg1 hb1 hs1; obtain ⟨e1, e2, e3, e4⟩ := cells4 hg1.out; go_frame) | (go_at_call 52; refine (C.out w1).mono ?_; rintro ex w2 ⟨rfl, hb2⟩; go_frame))
  go_ret
  exact ⟨rfl, hb1.out.trans (hb2.mono hb1.out.size)⟩
set_option maxRecDepth 100000 in
set_option maxHeartbeats 2000000 in
theorem has_kids (k : Int) (hk : ¬ k = 4) (t : List UInt8) (nv kv : Value) (r : Bool) (w : World) (hc : ∀ u, Below w.heap.size w u → Calls Tryd.prog 53 #[kv, .func (.func 54) #[] #[]] u fun e w' => e = .returned (.bool (!r)) ∧ Below u.heap.size u w') :
    Calls Tryd.prog 36 #[jv k t nv kv] w fun e w' => e = .returned (.bool r) ∧ Below w.heap.size w w' := by
  have C := Lib.hid hc
  have BX := fun w => box_json k t nv kv w
  have hnot : ∀ (x : Bool) (w : World), (Op.unary .not (.bool x)).run Tryd.prog w = .ok (.bool (!x)) w := fun _ _ => rfl
  unfold jv jrow at *
  generalize bs t = s at *
  clear hc
  go_enter Tryd.func36, Tryd.ntmps36
  go_wp2_with (first | (refine wpList_box_any (w := w) rfl _ rfl _ _ rfl BX ?_; intro w1 hg1 hb1 hs1; obtain ⟨e1, e2, e3, e4⟩ := cells4 hg1.out; go_frame) | (go_at_call 53; refine (C.out w1 hb1.out).mono ?_; rintro ex w2 ⟨rfl, hb2⟩; go_frame))
  go_ret
  exact ⟨by simp, hb1.out.trans (hb2.mono hb1.out.size)⟩
theorem has_at : ∀ j, HasC j := by
  intro j
  induction j using Js.J.ind with
  | h k t ns ks ih =>
    intro v B w hf hat hB
    obtain ⟨nv, kv, vs, rfl, _, _, hn, hk, hl, hs⟩ := hat.jv_
    cases hf with
    | mk _ _ _ _ h1 h2 h3 h4 h5 =>
    rw [Js.nums_mk]
    by_cases h4' : k = 4
    · subst h4'
      rw [if_pos rfl]
      exact has_number t nv kv _ w fun u => isNumber_any t h1 u
    · rw [if_neg h4']
      refine has_kids k h4' t nv kv _ w fun u hu => hasKids_any kv _ u (idxKids_any ks kv vs B u ih h5 h4 (hk.frame (fun _ h => h) hu.size fun g hg _ => hu.block g (by omega)) hl (fun i j v a b => (hs i j v a b).low hu hB) (Nat.le_trans hB hu.size))
end Go.Proofs.YthfnlnhehececaaDoor
